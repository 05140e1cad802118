package ask_test

import (
	"strings"
	"testing"

	"hardtack/api"
	"hardtack/ask"
)

const (
	key   = "0123456789abcdef"
	other = "0123456789abcdeF"
)

var zero = strings.Repeat("\x00", 16)

func TestText(t *testing.T) {
	for _, c := range []struct {
		server uint32
		want   string
	}{
		{0, "ask\x00\x00\x00\x00"},
		{1, "ask\x00\x00\x00\x01"},
		{0x01020304, "ask\x01\x02\x03\x04"},
		{0x7f000001, "ask\x7f\x00\x00\x01"},
		{0xff000000, "ask\xff\x00\x00\x00"},
		{0x80, "ask\x00\x00\x00\x80"},
		{0xffffffff, "ask\xff\xff\xff\xff"},
	} {
		if got := ask.Text(c.server); got != c.want {
			t.Errorf("11.1: Text(%x) = %q, not %q", c.server, got, c.want)
		}
	}
}

// TestClientReckoned has sums that were reckoned by another program.
func TestClientReckoned(t *testing.T) {
	for _, c := range []struct {
		secret string
		server uint32
		want   string
	}{
		{key, 0, "\x16\x7c\x8b\xce\x78\x94\xdb\xec"},
		{key, 1, "\xf6\xbc\xd2\x2d\xce\xf1\x80\x0e"},
		{key, 0x01020304, "\x15\xe0\x26\x3d\x97\x4e\xc7\x66"},
		{key, 0x7f000001, "\x94\x3a\xff\x20\xa4\xdd\x14\x69"},
		{key, 0xffffffff, "\x42\xbc\xd1\x45\x46\x88\xb8\x56"},
		{other, 0x01020304, "\xfb\xe7\xe8\x11\x68\xd0\x00\x8c"},
		{zero, 0, "\xa8\x7c\x74\x20\xb4\x0f\x64\xd5"},
		{zero, 0xffffffff, "\x72\x77\xad\x08\xda\xc7\xf4\xfb"},
	} {
		for _, table := range [][]api.Sum{nil, {{Key: c.secret, Text: ask.Text(c.server), N: 7}}, {{Key: "short"}, {Key: "short"}}} {
			if got, why := ask.Client(api.Hash{Table: table}, c.secret, c.server); got != c.want || why != api.OK {
				t.Errorf("11.1: Client(%q, %x), reckoned beside %d entries, = %q, %d, not %q", c.secret, c.server, len(table), got, why, c.want)
			}
		}
	}
}

// tables are an ideal hash that is right, and one that is not: a pair is there twice, and a key has another length.
func tables() []api.Hash {
	right := []api.Sum{
		{Key: key, Text: "ask\x01\x02\x03\x04", N: 0x41},
		{Key: other, Text: "ask\x01\x02\x03\x04", N: 0x0102030405060708},
		{Key: key, Text: "ask\x04\x03\x02\x01", N: 1<<64 - 1},
		{Key: key, Text: "ask\x00\x00\x00\x05", N: 0},
		{Key: key, Text: "give\x00\x00\x00\x06", N: 6},
		{Key: key, Text: "\x00\x00\x00\x06", N: 6},
		{Key: key, Text: "ask\x06\x00\x00\x00", N: 0x100000000000000},
	}
	wrong := append([]api.Sum{{Key: "k", Text: "ask\x01\x02\x03\x04", N: 3}}, right...)
	wrong = append(wrong, api.Sum{Key: key, Text: "ask\x01\x02\x03\x04", N: 9}, api.Sum{Key: key, Text: "ask\x00\x00\x00\x05", N: 9})
	return []api.Hash{{Ideal: true, Table: right}, {Ideal: true, Table: wrong}}
}

func TestClientByATable(t *testing.T) {
	for _, c := range []struct {
		what   string
		secret string
		server uint32
		want   string
	}{
		{"an entry", key, 0x01020304, "A\x00\x00\x00\x00\x00\x00\x00"},
		{"another secret's entry", other, 0x01020304, "\x08\x07\x06\x05\x04\x03\x02\x01"},
		{"the entry of the address turned round", key, 0x04030201, "\xff\xff\xff\xff\xff\xff\xff\xff"},
		{"the highest byte", key, 0x06000000, "\x00\x00\x00\x00\x00\x00\x00\x01"},
		{"an entry of 0", key, 5, "\x00\x00\x00\x00\x00\x00\x00\x00"},
		{"entries of other texts", key, 6, "\x00\x00\x00\x00\x00\x00\x00\x00"},
		{"no entry", key, 0x01020305, "\x00\x00\x00\x00\x00\x00\x00\x00"},
		{"no entry of this secret", other, 0x04030201, "\x00\x00\x00\x00\x00\x00\x00\x00"},
	} {
		for i, h := range tables() {
			if got, why := ask.Client(h, c.secret, c.server); got != c.want || why != api.OK {
				t.Errorf("11.1: Client, by the table %d, of %s = %q, %d, not %q", i, c.what, got, why, c.want)
			}
		}
	}
	if got, why := ask.Client(api.Hash{Ideal: true}, key, 1); got != "\x00\x00\x00\x00\x00\x00\x00\x00" || why != api.OK {
		t.Errorf("11.1: Client by a table without entries = %q, %d", got, why)
	}
}

func TestClientOfNoSecret(t *testing.T) {
	for _, secret := range []string{"", "k", key[:15], key + "0", key + key, key[:8], strings.Repeat("k", api.MaxBytes+1)} {
		for i, h := range append(tables(), api.Hash{}, api.Hash{Ideal: true}) {
			if got, why := ask.Client(h, secret, 0x01020304); got != "" || why != api.ErrForm {
				t.Errorf("11.1: Client by a secret of %d bytes, and the hash %d, = %q, %d, not ErrForm", len(secret), i, got, why)
			}
		}
	}
}
