package give_test

import (
	"math"
	"strings"
	"testing"

	"hardtack/api"
	"hardtack/give"
)

// hashes are those that are reckoned, and those by a table, right and not.
func hashes() []api.Hash {
	all := append(tables(), api.Hash{}, api.Hash{Ideal: true})
	return append(all, api.Hash{Table: all[1].Table})
}

// cookie is one that was made.
func cookie(t *testing.T, h api.Hash, secret string, now int64) string {
	t.Helper()
	c, why := give.Make(h, secret, client, addr, now)
	if why != api.OK {
		t.Fatalf("12.1: Make by %q at %d = %d", secret, now, why)
	}
	return c
}

func TestVerifyAges(t *testing.T) {
	for _, c := range []struct {
		age   int64
		why   api.Errno
		renew bool
	}{
		{-1 << 31, api.ErrOld, false},
		{-3600, api.ErrOld, false},
		{-302, api.ErrOld, false},
		{-301, api.ErrOld, false},
		{-300, api.OK, false},
		{-299, api.OK, false},
		{-1, api.OK, false},
		{0, api.OK, false},
		{1, api.OK, false},
		{300, api.OK, false},
		{1799, api.OK, false},
		{1800, api.OK, false},
		{1801, api.OK, true},
		{3599, api.OK, true},
		{3600, api.OK, true},
		{3601, api.ErrOld, false},
		{1<<31 - 1, api.ErrOld, false},
		{1 << 31, api.ErrOld, false},
		{1<<32 - 301, api.ErrOld, false},
		{1<<32 - 300, api.OK, false},
		{1 << 32, api.OK, false},
		{1<<32 + 1801, api.OK, true},
		{1<<32 + 3600, api.OK, true},
		{1<<32 + 3601, api.ErrOld, false},
	} {
		for i, h := range hashes() {
			for _, at := range []int64{100, 0, -1, 1 << 31, 1<<32 - 1, 1 << 32, 7<<32 + 5, -1 << 40, math.MaxInt64 - 1<<33, math.MinInt64 + 1<<33} {
				made := cookie(t, h, key, at)
				renew, why := give.Verify(h, api.Secrets{Now: key, Was: other}, client, made, addr, at+c.age)
				if renew != c.renew || why != c.why {
					t.Errorf("12.2: Verify, by the hash %d, of a cookie of %d that is %d seconds old = %t, %d", i, at, c.age, renew, why)
				}
			}
		}
	}
}

func TestVerifySecrets(t *testing.T) {
	const never = "never was a key."
	for _, c := range []struct {
		what  string
		s     api.Secrets
		age   int64
		why   api.Errno
		renew bool
	}{
		{"by Now", api.Secrets{Now: key, Was: third}, 0, api.OK, false},
		{"by Now, late", api.Secrets{Now: key, Was: third}, 1801, api.OK, true},
		{"by Now, where there is no Was", api.Secrets{Now: key}, 0, api.OK, false},
		{"by Now, where Was makes none", api.Secrets{Now: key, Was: key + "0"}, 0, api.OK, false},
		{"by both", api.Secrets{Now: key, Was: key}, 0, api.OK, false},
		{"by both, late", api.Secrets{Now: key, Was: key}, 1801, api.OK, true},
		{"by Was", api.Secrets{Now: third, Was: key}, 0, api.OK, true},
		{"by Was, early", api.Secrets{Now: third, Was: key}, -300, api.OK, true},
		{"by Was, late", api.Secrets{Now: third, Was: key}, 3600, api.OK, true},
		{"by Was, where there is no Now", api.Secrets{Was: key}, 0, api.OK, true},
		{"by Was, where Now makes none", api.Secrets{Now: key[:15], Was: key}, 0, api.OK, true},
		{"by Was, too late", api.Secrets{Now: third, Was: key}, 3601, api.ErrOld, false},
		{"by neither", api.Secrets{Now: third, Was: never}, 0, api.ErrCode, false},
		{"by neither, late", api.Secrets{Now: third, Was: never}, 1801, api.ErrCode, false},
		{"by neither, too late", api.Secrets{Now: third, Was: never}, 3601, api.ErrOld, false},
		{"by neither, where there is no Was", api.Secrets{Now: third}, 0, api.ErrCode, false},
		{"by no secret", api.Secrets{}, 0, api.ErrCode, false},
		{"by a secret in other letters", api.Secrets{Now: strings.ToUpper(key), Was: other}, 0, api.ErrCode, false},
		{"by pieces of the secret", api.Secrets{Now: key[:15], Was: key[1:]}, 0, api.ErrCode, false},
		{"by more than the secret", api.Secrets{Now: key + "0", Was: key + key}, 0, api.ErrCode, false},
	} {
		for _, h := range append(tables(), api.Hash{}) {
			made := cookie(t, h, key, 100)
			if renew, why := give.Verify(h, c.s, client, made, addr, 100+c.age); renew != c.renew || why != c.why {
				t.Errorf("12.2: Verify, ideal %t, %s = %t, %d, not %t, %d", h.Ideal, c.what, renew, why, c.renew, c.why)
			}
		}
	}
}

func TestVerifyAnothers(t *testing.T) {
	s := api.Secrets{Now: key, Was: other}
	for i, h := range append(tables(), api.Hash{}) {
		made := cookie(t, h, key, 100)
		for _, c := range []struct {
			what           string
			client, server string
			addr           uint32
		}{
			{"of another client", "clientyy", made, addr},
			{"of a client in other letters", "CLIENTXX", made, addr},
			{"of a client of noughts", nought, made, addr},
			{"of the next address", client, made, addr + 1},
			{"of the address turned round", client, made, 0x04030201},
			{"of no address", client, made, 0},
			{"of a later stamp", client, begin + "\x00\x00\x00\x65" + made[8:], addr},
			{"of an earlier stamp", client, begin + "\x00\x00\x00\x63" + made[8:], addr},
			{"of another first byte of the sum", client, made[:8] + "\x06" + made[9:], addr},
			{"of another last byte of the sum", client, made[:15] + "\x55", addr},
			{"of the sum turned round", client, made[:8] + turned(made[8:]), addr},
			{"of a sum of 0", client, made[:8] + nought, addr},
		} {
			if renew, why := give.Verify(h, s, c.client, c.server, c.addr, 100); renew || why != api.ErrCode {
				t.Errorf("12.2: Verify, by the hash %d, %s = %t, %d, not ErrCode", i, c.what, renew, why)
			}
		}
	}
}

func turned(s string) string {
	var b strings.Builder
	for i := len(s) - 1; i >= 0; i-- {
		b.WriteByte(s[i])
	}
	return b.String()
}

// TestVerifySumsOf0 has a cookie without a sum of its own: it is verified where a secret has no entry, too.
func TestVerifySumsOf0(t *testing.T) {
	at100, at102 := begin+"\x00\x00\x00\x64"+nought, begin+"\x00\x00\x00\x66"+nought
	for _, c := range []struct {
		what   string
		h      api.Hash
		s      api.Secrets
		client string
		server string
		why    api.Errno
		renew  bool
	}{
		{"no entry", api.Hash{Ideal: true}, api.Secrets{Now: key, Was: other}, client, at100, api.OK, false},
		{"no entry of this client", tables()[0], api.Secrets{Now: key, Was: other}, "clientzz", at100, api.OK, false},
		{"an entry of 0", tables()[0], api.Secrets{Now: key}, client, at102, api.OK, false},
		{"the first entry, of 0", tables()[1], api.Secrets{Now: key}, client, at102, api.OK, false},
		{"an entry by Now, none by Was", tables()[0], api.Secrets{Now: key, Was: third}, client, at100, api.OK, true},
		{"an entry by Was, none by Now", tables()[0], api.Secrets{Now: third, Was: key}, client, at100, api.OK, false},
		{"entries by both", tables()[0], api.Secrets{Now: key, Was: other}, client, at100, api.ErrCode, false},
		{"an entry by Now, and no Was", tables()[0], api.Secrets{Now: key}, client, at100, api.ErrCode, false},
		{"an entry by Was, and no Now", tables()[0], api.Secrets{Was: key}, client, at100, api.ErrCode, false},
		{"secrets that make no cookie", api.Hash{Ideal: true}, api.Secrets{Now: key[:15], Was: "k"}, client, at100, api.ErrCode, false},
		{"no secrets", api.Hash{Ideal: true}, api.Secrets{}, client, at100, api.ErrCode, false},
		{"sums that are reckoned", api.Hash{}, api.Secrets{Now: key, Was: other}, client, at100, api.ErrCode, false},
	} {
		if renew, why := give.Verify(c.h, c.s, c.client, c.server, addr, 102); renew != c.renew || why != c.why {
			t.Errorf("12.2: Verify of a sum of 0, %s = %t, %d, not %t, %d", c.what, renew, why, c.renew, c.why)
		}
	}
}

func TestVerifyByTheFirstEntry(t *testing.T) {
	h, s := tables()[1], api.Secrets{Now: key}
	for sum, want := range map[string]api.Errno{"\x07": api.OK, "\x04": api.ErrCode, "\x03": api.ErrCode} {
		if renew, why := give.Verify(h, s, client, begin+"\x00\x00\x00\x64"+sum+nought[1:], addr, 100); renew || why != want {
			t.Errorf("12.2: Verify of the sum %q = %t, %d, not %d", sum, renew, why, want)
		}
	}
}

func TestVerifyForms(t *testing.T) {
	for i, h := range hashes() {
		made := cookie(t, h, key, 100)
		for _, c := range []struct {
			what   string
			server string
			want   api.Errno
		}{
			{"nothing", "", api.ErrNone},
			{"a byte", "\x01", api.ErrForm},
			{"a byte 0", "\x00", api.ErrForm},
			{"its beginning", begin, api.ErrForm},
			{"its head", made[:8], api.ErrForm},
			{"15 bytes", made[:15], api.ErrForm},
			{"17 bytes", made + "\x00", api.ErrForm},
			{"it twice", made + made, api.ErrForm},
			{"very many bytes", made + strings.Repeat("\x00", api.MaxBytes), api.ErrForm},
			{"a first byte 0", "\x00" + made[1:], api.ErrForm},
			{"a first byte 2", "\x02" + made[1:], api.ErrForm},
			{"a first byte 81", "\x81" + made[1:], api.ErrForm},
			{"a second byte 1", "\x01\x01" + made[2:], api.ErrForm},
			{"a third byte 1", "\x01\x00\x01" + made[3:], api.ErrForm},
			{"a fourth byte 1", "\x01\x00\x00\x01" + made[4:], api.ErrForm},
			{"a beginning turned round", "\x00\x00\x00\x01" + made[4:], api.ErrForm},
			{"16 bytes 0", nought + nought, api.ErrForm},
			{"a wrong beginning of what is too old", "\x02" + made[1:4] + "\x80\x00\x00\x64" + made[8:], api.ErrForm},
			{"what is too old, and was never made", begin + "\x80\x00\x00\x64\x01\x02\x03\x04\x05\x06\x07\x08", api.ErrOld},
			{"what was never made", begin + "\x00\x00\x00\x64\x01\x02\x03\x04\x05\x06\x07\x09", api.ErrCode},
		} {
			if renew, why := give.Verify(h, api.Secrets{Now: key, Was: other}, client, c.server, addr, 100); renew || why != c.want {
				t.Errorf("12.2: Verify, by the hash %d, of %s = %t, %d, not %d", i, c.what, renew, why, c.want)
			}
			for _, no := range noClients {
				if renew, why := give.Verify(h, api.Secrets{Now: key, Was: other}, no, c.server, addr, 100); renew || why != api.ErrForm {
					t.Errorf("12.2: Verify, by the hash %d, of %s, of a client's of %d bytes = %t, %d, not ErrForm", i, c.what, len(no), renew, why)
				}
			}
		}
	}
}
