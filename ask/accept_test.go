package ask_test

import (
	"math/rand/v2"
	"slices"
	"strings"
	"testing"

	"hardtack/api"
	"hardtack/ask"
	"hardtack/edns"
)

const (
	sent = "\x00\xff345678"
	made = "\x01\x00\x00\x00serverxx"
)

// saying is what an OPT record says that has these as its cookies, among other options.
func saying(cookies ...string) api.Edns {
	e := api.Edns{There: true, Size: 1232, Options: []api.Option{{Code: 3, Data: sent + made}, {Code: 11}}}
	for _, c := range cookies {
		e.Options = append(e.Options, api.Option{Code: 10, Data: c})
	}
	return e
}

func TestAccept(t *testing.T) {
	longest, shortest := strings.Repeat("s", 32), strings.Repeat("s", 8)
	for _, c := range []struct {
		what        string
		sent        string
		e           api.Edns
		loose, hard api.Errno // if they are not enforced, and if they are
		server      string
	}{
		{"both cookies", sent, saying(sent + made), api.OK, api.OK, made},
		{"the client's alone", sent, saying(sent), api.OK, api.OK, ""},
		{"the shortest server's", sent, saying(sent + shortest), api.OK, api.OK, shortest},
		{"the longest server's", sent, saying(sent + longest), api.OK, api.OK, longest},
		{"a server's that is the client's", sent, saying(sent + sent), api.OK, api.OK, sent},
		{"a client's of noughts", strings.Repeat("\x00", 8), saying(strings.Repeat("\x00", 8) + made), api.OK, api.OK, made},
		{"the first of two", sent, saying(sent+made, "12345678"+longest), api.OK, api.OK, made},
		{"one that is none behind it", sent, saying(sent+made, "abc"), api.OK, api.OK, made},
		{"cookies of what is not there", sent, api.Edns{Options: saying(sent + made).Options}, api.OK, api.OK, made},

		{"another client's", sent, saying("12345678" + made), api.ErrCode, api.ErrCode, ""},
		{"another client's alone", sent, saying("12345678"), api.ErrCode, api.ErrCode, ""},
		{"another first byte", sent, saying("\x01" + sent[1:] + made), api.ErrCode, api.ErrCode, ""},
		{"another last byte", sent, saying(sent[:7] + "9" + made), api.ErrCode, api.ErrCode, ""},
		{"letters that are great", "abcdefgh", saying("ABCDEFGH" + made), api.ErrCode, api.ErrCode, ""},
		{"a client's where none was sent", "", saying(sent + made), api.ErrCode, api.ErrCode, ""},
		{"a client's of noughts where none was sent", "", saying(strings.Repeat("\x00", 8)), api.ErrCode, api.ErrCode, ""},
		{"a piece of what was sent", sent + "9", saying(sent + made), api.ErrCode, api.ErrCode, ""},
		{"more than was sent", sent[:7], saying(sent + made), api.ErrCode, api.ErrCode, ""},
		{"all that was sent, as if it were the client's", sent + made, saying(sent + made), api.ErrCode, api.ErrCode, ""},
		{"the server's as the client's", sent, saying(made[:8] + sent), api.ErrCode, api.ErrCode, ""},
		{"the right one behind another one", sent, saying("12345678"+made, sent+made), api.ErrCode, api.ErrCode, ""},

		{"no record", sent, api.Edns{}, api.OK, api.ErrNone, ""},
		{"no options", sent, api.Edns{There: true}, api.OK, api.ErrNone, ""},
		{"no cookies among the options", sent, saying(), api.OK, api.ErrNone, ""},
		{"no cookies, and none was sent", "", saying(), api.OK, api.ErrNone, ""},
		{"no cookies, and what was sent is none", "abc", saying(), api.OK, api.ErrNone, ""},
		{"cookies of another code", sent, api.Edns{There: true, Options: []api.Option{{Code: 0x0a00, Data: sent + made}}}, api.OK, api.ErrNone, ""},

		{"an empty option", sent, saying(""), api.ErrForm, api.ErrForm, ""},
		{"an empty option, and nothing was sent", "", saying(""), api.ErrForm, api.ErrForm, ""},
		{"7 bytes", sent, saying(sent[:7]), api.ErrForm, api.ErrForm, ""},
		{"7 bytes, as they were sent", sent[:7], saying(sent[:7]), api.ErrForm, api.ErrForm, ""},
		{"a server's of 1 byte", sent, saying(sent + "s"), api.ErrForm, api.ErrForm, ""},
		{"a server's of 7 bytes", sent, saying(sent + shortest[1:]), api.ErrForm, api.ErrForm, ""},
		{"a server's of 33 bytes", sent, saying(sent + longest + "s"), api.ErrForm, api.ErrForm, ""},
		{"another client's, and a server's of 7 bytes", sent, saying("12345678" + shortest[1:]), api.ErrForm, api.ErrForm, ""},
		{"the right ones behind what is none", sent, saying("abc", sent+made), api.ErrForm, api.ErrForm, ""},
	} {
		for enforced, want := range map[bool]api.Errno{false: c.loose, true: c.hard} {
			if got, why := ask.Accept(c.sent, enforced, c.e); got != c.server || why != want {
				t.Errorf("11.2: Accept of %s, enforced %t, = %q, %d, not %q, %d", c.what, enforced, got, why, c.server, want)
			}
		}
	}
}

func TestArgumentsStay(t *testing.T) {
	e, h := saying(sent+made, "abc"), tables()[1]
	options, table := slices.Clone(e.Options), slices.Clone(h.Table)
	ask.Accept(sent, true, e)
	ask.Client(h, key, 0x01020304)
	if !slices.Equal(e.Options, options) || !slices.Equal(h.Table, table) || !h.Ideal {
		t.Errorf("11.2: a call changed its argument")
	}
}

// replies are some: without cookies, with one of some clients', with and without a server's, and with what is none.
func replies(draw *rand.Rand, clients []string) api.Edns {
	switch draw.IntN(6) {
	case 0:
		return api.Edns{}
	case 1:
		return saying()
	case 2:
		return saying(strings.Repeat("x", draw.IntN(50)))
	}
	client := clients[draw.IntN(len(clients))]
	return saying(client + strings.Repeat("s", draw.IntN(40)))
}

func TestItsOwnAlone(t *testing.T) {
	draw := rand.New(rand.NewPCG(11, 3))
	var clients []string
	for _, secret := range []string{key, other} {
		for _, server := range []uint32{0, 1, 0x01020304, 0x01020305, 0x04030201, 0xffffffff} {
			c, why := ask.Client(api.Hash{}, secret, server)
			if why != api.OK || slices.Contains(clients, c) {
				t.Fatalf("11.3: the cookie of %q for %x is %q, %d", secret, server, c, why)
			}
			clients = append(clients, c)
		}
	}
	accepted := 0
	for range 5000 {
		own, enforced, e := clients[draw.IntN(len(clients))], draw.IntN(2) == 0, replies(draw, clients)
		got, why := ask.Accept(own, enforced, e)
		client, server, there := edns.Cookies(e)
		want := there == api.OK && client == own || there == api.ErrNone && !enforced
		if want != (why == api.OK) || want && got != server || !want && got != "" {
			t.Fatalf("11.3: Accept(%q, %t, %v) = %q, %d", own, enforced, e.Options, got, why)
		}
		if there == api.OK && why == api.OK {
			accepted++
		}
	}
	if accepted < 50 {
		t.Errorf("only %d replies were accepted with a cookie", accepted)
	}
}

// TestAcceptWhatAServerSends is the whole way: what is asked of a server, and what it sends back.
func TestAcceptWhatAServerSends(t *testing.T) {
	for i, h := range append(tables(), api.Hash{}) {
		own, why := ask.Client(h, key, 0x01020304)
		if why != api.OK {
			t.Fatalf("11.1: there is no cookie by the hash %d: %d", i, why)
		}
		e, why := edns.With(api.Edns{Size: 1232}, own, made)
		if why != api.OK {
			t.Fatalf("11.1: what Client made by the hash %d is no cookie: %q", i, own)
		}
		if got, why := ask.Accept(own, true, e); got != made || why != api.OK {
			t.Errorf("11.3: Accept of what was sent, by the hash %d, = %q, %d", i, got, why)
		}
		if another, _ := ask.Client(h, key, 0x04030201); another != own {
			if got, why := ask.Accept(another, false, e); got != "" || why != api.ErrCode {
				t.Errorf("11.3: Accept of another server's, by the hash %d, = %q, %d", i, got, why)
			}
		}
	}
}
