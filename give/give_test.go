package give_test

import (
	"math"
	"slices"
	"strings"
	"testing"

	"hardtack/api"
	"hardtack/give"
)

const (
	key    = "0123456789abcdef"
	other  = "0123456789abcdeF"
	third  = "\x00\xff\x0023456789abcde"
	client = "clientxx"
	addr   = 0x01020304

	// begin is what a cookie has ahead of its stamp, nought a sum of 0.
	begin  = "\x01\x00\x00\x00"
	nought = "\x00\x00\x00\x00\x00\x00\x00\x00"
)

// noSecrets have not 16 bytes.
var noSecrets = []string{"", "k", key[:8], key[:15], key + "0", key + key, strings.Repeat("k", api.MaxBytes+1)}

// noClients have not 8 bytes.
var noClients = []string{"", "c", client[:7], client + "x", client + client, strings.Repeat("c", api.MaxBytes+1)}

func TestText(t *testing.T) {
	long := strings.Repeat("l", api.MaxBytes+1)
	for _, c := range []struct {
		client, head string
		addr         uint32
		want         string
	}{
		{client, begin + "\x00\x00\x00\x64", addr, "giveclientxx\x01\x00\x00\x00\x00\x00\x00\x64\x01\x02\x03\x04"},
		{"\x00\xff345678", begin + "\xff\xfe\xfd\xfc", 0xffffffff, "give\x00\xff345678\x01\x00\x00\x00\xff\xfe\xfd\xfc\xff\xff\xff\xff"},
		{client, "headhead", 0, "giveclientxxheadhead\x00\x00\x00\x00"},
		{client, "headhead", 0x80, "giveclientxxheadhead\x00\x00\x00\x80"},
		{client, "headhead", 0xc0000000, "giveclientxxheadhead\xc0\x00\x00\x00"},
		{"", "", 1, "give\x00\x00\x00\x01"},
		{"", "head", 1, "givehead\x00\x00\x00\x01"},
		{"c", "", 1, "givec\x00\x00\x00\x01"},
		{long, long, 1, "give" + long + long + "\x00\x00\x00\x01"},
	} {
		if got := give.Text(c.client, c.head, c.addr); got != c.want {
			t.Errorf("12.1: Text(%.9q, %.9q, %x) = %.40q", c.client, c.head, c.addr, got)
		}
	}
}

// TestMakeReckoned has sums that were reckoned by another program.
func TestMakeReckoned(t *testing.T) {
	for _, c := range []struct {
		secret, client string
		addr           uint32
		now            int64
		want           string
	}{
		{key, client, addr, 100, begin + "\x00\x00\x00\x64\xe9\x08\x49\xff\x61\x26\x4d\x8f"},
		{key, client, addr, 1559731985, begin + "\x5c\xf7\x9f\x11\x17\xd4\x4b\x05\x13\x5a\xe4\x6b"},
		{other, "\x24\x64\xc4\xab\xcf\x10\xc9\x57", 0xc6336464, 1559731985, begin + "\x5c\xf7\x9f\x11\xcf\x60\x69\xe0\x10\xb4\x0b\xc8"},
		{key, nought, 0, 0, begin + "\x00\x00\x00\x00\x8a\xde\x1a\x72\x0b\x1b\x7c\x32"},
		{key, "\xff\xff\xff\xff\xff\xff\xff\xff", 0xffffffff, -1, begin + "\xff\xff\xff\xff\x67\x38\x3b\xa3\x1f\xe1\x1d\xd8"},
		{key, client, addr, 1<<32 + 100, begin + "\x00\x00\x00\x64\xe9\x08\x49\xff\x61\x26\x4d\x8f"},
		{key, client, addr, math.MinInt64 + 100, begin + "\x00\x00\x00\x64\xe9\x08\x49\xff\x61\x26\x4d\x8f"},
	} {
		for _, table := range [][]api.Sum{nil, {{Key: c.secret, Text: give.Text(c.client, c.want[:8], c.addr), N: 7}}, {{Key: "short"}, {Key: "short"}}} {
			if got, why := give.Make(api.Hash{Table: table}, c.secret, c.client, c.addr, c.now); got != c.want || why != api.OK {
				t.Errorf("12.1: Make(%q, %q, %x, %d), reckoned beside %d entries, = %q, %d, not %q", c.secret, c.client, c.addr, c.now, len(table), got, why, c.want)
			}
		}
	}
}

// tables are an ideal hash that is right, and one that is not: pairs are there twice, and a key has another length.
func tables() []api.Hash {
	right := []api.Sum{
		{Key: key, Text: "giveclientxx\x01\x00\x00\x00\x00\x00\x00\x64\x01\x02\x03\x04", N: 7},
		{Key: other, Text: "giveclientxx\x01\x00\x00\x00\x00\x00\x00\x64\x01\x02\x03\x04", N: 0x0102030405060708},
		{Key: key, Text: "giveclientyy\x01\x00\x00\x00\x00\x00\x00\x64\x01\x02\x03\x04", N: 1<<64 - 1},
		{Key: key, Text: "giveclientxx\x01\x00\x00\x00\x00\x00\x00\x65\x01\x02\x03\x04", N: 8},
		{Key: key, Text: "giveclientxx\x01\x00\x00\x00\x00\x00\x00\x64\x04\x03\x02\x01", N: 9},
		{Key: key, Text: "giveclientxx\x01\x00\x00\x00\x00\x00\x00\x66\x01\x02\x03\x04", N: 0},
		{Key: key, Text: "giveclientxx\x00\x00\x00\x00\x00\x00\x00\x67\x01\x02\x03\x04", N: 10},
		{Key: key, Text: "askclientxx\x01\x00\x00\x00\x00\x00\x00\x67\x01\x02\x03\x04", N: 11},
		{Key: key, Text: "giveclientxx\x01\x00\x00\x00\x67\x00\x00\x00\x01\x02\x03\x04", N: 12},
	}
	wrong := append([]api.Sum{{Key: "k", Text: right[0].Text, N: 3}}, right...)
	wrong = append(wrong, api.Sum{Key: key, Text: right[0].Text, N: 4}, api.Sum{Key: key, Text: right[5].Text, N: 4})
	return []api.Hash{{Ideal: true, Table: right}, {Ideal: true, Table: wrong}}
}

func TestMakeByATable(t *testing.T) {
	for _, c := range []struct {
		what           string
		secret, client string
		addr           uint32
		now            int64
		want           string
	}{
		{"an entry", key, client, addr, 100, begin + "\x00\x00\x00\x64\x07\x00\x00\x00\x00\x00\x00\x00"},
		{"an entry of a stamp that went round", key, client, addr, 3<<32 + 100, begin + "\x00\x00\x00\x64\x07\x00\x00\x00\x00\x00\x00\x00"},
		{"another secret's entry", other, client, addr, 100, begin + "\x00\x00\x00\x64\x08\x07\x06\x05\x04\x03\x02\x01"},
		{"another client's entry", key, "clientyy", addr, 100, begin + "\x00\x00\x00\x64\xff\xff\xff\xff\xff\xff\xff\xff"},
		{"another stamp's entry", key, client, addr, 101, begin + "\x00\x00\x00\x65\x08\x00\x00\x00\x00\x00\x00\x00"},
		{"another address' entry", key, client, 0x04030201, 100, begin + "\x00\x00\x00\x64\x09\x00\x00\x00\x00\x00\x00\x00"},
		{"an entry of 0", key, client, addr, 102, begin + "\x00\x00\x00\x66" + nought},
		{"entries of other texts", key, client, addr, 103, begin + "\x00\x00\x00\x67" + nought},
		{"an entry of a stamp turned round", key, client, addr, 0x67000000, begin + "\x67\x00\x00\x00\x0c\x00\x00\x00\x00\x00\x00\x00"},
		{"no entry", key, client, addr, 99, begin + "\x00\x00\x00\x63" + nought},
		{"no entry of this secret", other, client, addr, 101, begin + "\x00\x00\x00\x65" + nought},
	} {
		for i, h := range tables() {
			if got, why := give.Make(h, c.secret, c.client, c.addr, c.now); got != c.want || why != api.OK {
				t.Errorf("12.1: Make, by the table %d, of %s = %q, %d, not %q", i, c.what, got, why, c.want)
			}
		}
	}
	if got, why := give.Make(api.Hash{Ideal: true}, key, client, addr, 100); got != begin+"\x00\x00\x00\x64"+nought || why != api.OK {
		t.Errorf("12.1: Make by a table without entries = %q, %d", got, why)
	}
}

func TestMakeWrong(t *testing.T) {
	for i, h := range append(tables(), api.Hash{}, api.Hash{Ideal: true}) {
		for _, secret := range noSecrets {
			if got, why := give.Make(h, secret, client, addr, 100); got != "" || why != api.ErrForm {
				t.Errorf("12.1: Make by a secret of %d bytes, and the hash %d, = %q, %d, not ErrForm", len(secret), i, got, why)
			}
		}
		for _, c := range noClients {
			for _, secret := range []string{key, ""} {
				if got, why := give.Make(h, secret, c, addr, 100); got != "" || why != api.ErrForm {
					t.Errorf("12.1: Make of a client's of %d bytes, by the hash %d, = %q, %d, not ErrForm", len(c), i, got, why)
				}
			}
		}
	}
}

func TestRoll(t *testing.T) {
	for _, s := range []api.Secrets{{Now: key, Was: other}, {Now: key}, {Was: other}, {}, {Now: key, Was: key}, {Now: third, Was: "abc"}, {Now: "abc", Was: other}} {
		for _, next := range []string{third, key, other, strings.Repeat("\x00", 16)} {
			if got, why := give.Roll(s, next); got != (api.Secrets{Now: next, Was: s.Now}) || why != api.OK {
				t.Errorf("12.1: Roll(%v, %q) = %v, %d", s, next, got, why)
			}
		}
		for _, next := range noSecrets {
			if got, why := give.Roll(s, next); got != (api.Secrets{}) || why != api.ErrForm {
				t.Errorf("12.1: Roll(%v) to a secret of %d bytes = %v, %d, not ErrForm", s, len(next), got, why)
			}
		}
	}
}

func TestArgumentsStay(t *testing.T) {
	h := tables()[1]
	table := slices.Clone(h.Table)
	c, _ := give.Make(h, key, client, addr, 100)
	give.Verify(h, api.Secrets{Now: other, Was: key}, client, c, addr, 100)
	if !h.Ideal || !slices.Equal(h.Table, table) {
		t.Errorf("12.1: a call changed its argument: %v", h)
	}
}
