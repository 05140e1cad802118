package edns_test

import (
	"slices"
	"strings"
	"testing"

	"hardtack/api"
	"hardtack/edns"
)

const client = "\x00\xff345678"

// text is one of so many bytes.
func text(size int) string { return strings.Repeat("s", size) }

func isServer(size int) bool { return size == 0 || 8 <= size && size <= 32 }

func TestCookies(t *testing.T) {
	for size := range 80 {
		data := client[:min(size, 8)] + text(max(0, size-8))
		e := api.Edns{There: true, Options: []api.Option{{Code: 9, Data: text(8)}, {Code: 10, Data: data}, {Code: 11, Data: text(16)}}}
		c, s, why := edns.Cookies(e)
		if size >= 8 && isServer(size-8) {
			if c != client || s != text(size-8) || why != api.OK {
				t.Errorf("7.2: Cookies of %d bytes = %q, %q, %d", size, c, s, why)
			}
		} else if c != "" || s != "" || why != api.ErrForm {
			t.Errorf("7.2: Cookies of %d bytes = %q, %q, %d, not ErrForm", size, c, s, why)
		}
	}
	if c, s, why := edns.Cookies(api.Edns{Options: []api.Option{{Code: 10, Data: text(1 << 16)}}}); c != "" || s != "" || why != api.ErrForm {
		t.Errorf("7.2: Cookies of 65536 bytes = %q, %d bytes, %d, not ErrForm", c, len(s), why)
	}
}

func TestCookiesOfTheFirst(t *testing.T) {
	good, other, bad := api.Option{Code: 10, Data: client + text(8)}, api.Option{Code: 10, Data: text(8)}, api.Option{Code: 10, Data: text(9)}
	for _, c := range []struct {
		what           string
		l              []api.Option
		client, server string
		why            api.Errno
	}{
		{"nothing", nil, "", "", api.ErrNone},
		{"other codes", []api.Option{{Code: 0, Data: text(8)}, {Code: 9, Data: text(8)}, {Code: 11, Data: text(8)}, {Code: 0x0a00, Data: text(8)}, {Code: 266, Data: text(8)}}, "", "", api.ErrNone},
		{"the first of two", []api.Option{good, other}, client, text(8), api.OK},
		{"the first of two, turned round", []api.Option{other, good}, text(8), "", api.OK},
		{"a bad one behind", []api.Option{good, bad}, client, text(8), api.OK},
		{"a bad one ahead", []api.Option{bad, good}, "", "", api.ErrForm},
		{"behind other codes", []api.Option{{Code: 1}, {Code: 3, Data: text(9)}, good}, client, text(8), api.OK},
	} {
		for _, there := range []bool{true, false} {
			gotClient, gotServer, why := edns.Cookies(api.Edns{There: there, Options: c.l})
			if gotClient != c.client || gotServer != c.server || why != c.why {
				t.Errorf("7.2: Cookies of %s = %q, %q, %d", c.what, gotClient, gotServer, why)
			}
		}
	}
}

func TestWith(t *testing.T) {
	cookie := api.Option{Code: 10, Data: client + text(16)}
	a, b := api.Option{Code: 9, Data: text(8)}, api.Option{Code: 11}
	for _, c := range []struct{ had, want []api.Option }{
		{nil, []api.Option{cookie}},
		{[]api.Option{a, b}, []api.Option{a, b, cookie}},
		{[]api.Option{b, a}, []api.Option{b, a, cookie}},
		{[]api.Option{{Code: 10, Data: "abc"}}, []api.Option{cookie}},
		{[]api.Option{{Code: 10}, a, {Code: 10, Data: text(8)}, b, cookie}, []api.Option{a, b, cookie}},
		{[]api.Option{a, a, cookie, a}, []api.Option{a, a, a, cookie}},
	} {
		for _, there := range []bool{true, false} {
			e := api.Edns{There: there, Size: 1, High: 2, Version: 3, Flags: 4, Options: slices.Clone(c.had)}
			want := api.Edns{There: true, Size: 1, High: 2, Version: 3, Flags: 4, Options: c.want}
			if got, why := edns.With(e, client, text(16)); !alike(got, want) || why != api.OK {
				t.Errorf("7.2: With of %v = %v, %d", c.had, got, why)
			}
		}
	}
}

func TestWithCookiesOfAnySize(t *testing.T) {
	for one := range 50 {
		for two := range 50 {
			got, why := edns.With(api.Edns{Size: 5}, text(one), text(two))
			want := api.Edns{There: true, Size: 5, Options: []api.Option{{Code: 10, Data: text(one + two)}}}
			if one == 8 && isServer(two) {
				if !alike(got, want) || why != api.OK {
					t.Errorf("7.2: With cookies of %d and %d bytes = %v, %d", one, two, got, why)
				}
			} else if !alike(got, api.Edns{}) || why != api.ErrForm {
				t.Errorf("7.2: With cookies of %d and %d bytes = %v, %d, not ErrForm", one, two, got, why)
			}
		}
	}
	if got, why := edns.With(api.Edns{There: true}, client, text(1<<16)); !alike(got, api.Edns{}) || why != api.ErrForm {
		t.Errorf("7.2: With a cookie of 65536 bytes has %d options, %d, not ErrForm", len(got.Options), why)
	}
}

func TestWithWhatMayNotBeSaid(t *testing.T) {
	full := []api.Option{{Code: 1, Data: text(api.MaxData - 4)}}
	e, why := edns.With(api.Edns{There: true, Options: full}, client, "")
	if len(e.Options) != 2 || why != api.OK {
		t.Fatalf("7.2: With of a full record has %d options, %d", len(e.Options), why)
	}
	if _, why := edns.Put(api.Msg{}, e); why != api.ErrForm {
		t.Errorf("7.1: Put of more than a full record = %d, not ErrForm", why)
	}
}
