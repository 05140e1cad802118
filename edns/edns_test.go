package edns_test

import (
	"slices"
	"strings"
	"testing"

	"hardtack/api"
	"hardtack/edns"
)

const (
	root = "\x00"
	org  = "\x03org\x00"
)

// same holds messages against each other, with no list for an empty one.
func same(a, b api.Msg) bool {
	return a.Id == b.Id && a.Bits == b.Bits && slices.Equal(a.Asks, b.Asks) && slices.Equal(a.Says, b.Says) && slices.Equal(a.Heads, b.Heads) && slices.Equal(a.Extra, b.Extra)
}

// alike holds what OPT records say against each other without the package's help.
func alike(a, b api.Edns) bool {
	return a.There == b.There && a.Size == b.Size && a.High == b.High && a.Version == b.Version && a.Flags == b.Flags && slices.Equal(a.Options, b.Options)
}

func opt(data string) api.RR { return api.RR{Name: root, Type: api.TypeOPT, Data: data} }

var (
	one = api.RR{Name: org, Type: api.TypeA, Class: 1, TTL: 60, Data: "AAAA"}
	two = api.RR{Name: org, Type: api.TypeTXT, Class: 1, TTL: 61, Data: "\x01a"}
)

// with is a message that has other records, too, and these in Extra.
func with(extra ...api.RR) api.Msg {
	return api.Msg{
		Id:    7,
		Bits:  0x8183,
		Asks:  []api.Question{{Name: org, Type: api.TypeA, Class: 1}},
		Says:  []api.RR{one, two},
		Heads: []api.RR{two, one},
		Extra: extra,
	}
}

// saying is what an OPT record says, with that record.
type saying struct {
	what string
	r    api.RR
	e    api.Edns
}

// options are so many of the code 1 without data, with the bytes that they are.
func options(many int) ([]api.Option, string) {
	return slices.Repeat([]api.Option{{Code: 1}}, many), strings.Repeat("\x00\x01\x00\x00", many)
}

func right() []saying {
	big := strings.Repeat("a", api.MaxData-4)
	many, bytes := options(api.MaxData / 4)
	return []saying{
		{"nothing else", opt(""), api.Edns{There: true}},
		{"a size", api.RR{Name: root, Type: api.TypeOPT, Class: 1232}, api.Edns{There: true, Size: 1232}},
		{"the greatest size", api.RR{Name: root, Type: api.TypeOPT, Class: 65535}, api.Edns{There: true, Size: 65535}},
		{"four bytes of TTL", api.RR{Name: root, Type: api.TypeOPT, TTL: 0x01020304}, api.Edns{There: true, High: 1, Version: 2, Flags: 0x0304}},
		{"High alone", api.RR{Name: root, Type: api.TypeOPT, TTL: 0xff000000}, api.Edns{There: true, High: 255}},
		{"Version alone", api.RR{Name: root, Type: api.TypeOPT, TTL: 0x00ff0000}, api.Edns{There: true, Version: 255}},
		{"Flags alone", api.RR{Name: root, Type: api.TypeOPT, TTL: 0x0000ffff}, api.Edns{There: true, Flags: 65535}},
		{"an option", opt("\x12\x34\x00\x03abc"), api.Edns{There: true, Options: []api.Option{{Code: 0x1234, Data: "abc"}}}},
		{"an option without data", opt("\x00\x00\x00\x00"), api.Edns{There: true, Options: []api.Option{{}}}},
		{"some options", opt("\xff\xff\x00\x01a\x00\x0a\x00\x00\x00\x03\x00\x02\xc0\x00\xff\xff\x00\x01a"),
			api.Edns{There: true, Options: []api.Option{{Code: 65535, Data: "a"}, {Code: 10}, {Code: 3, Data: "\xc0\x00"}, {Code: 65535, Data: "a"}}}},
		{"an option of most data", opt("\x00\x05\x0f\xfc" + big), api.Edns{There: true, Options: []api.Option{{Code: 5, Data: big}}}},
		{"two of most data", opt("\x00\x05\x0f\xf7" + big[5:] + "\x00\x06\x00\x01!"), api.Edns{There: true, Options: []api.Option{{Code: 5, Data: big[5:]}, {Code: 6, Data: "!"}}}},
		{"most options", opt(bytes), api.Edns{There: true, Options: many}},
		{"all of them", api.RR{Name: root, Type: api.TypeOPT, Class: 0x1234, TTL: 0xfedcba98, Data: "\x00\x0a\x00\x0812345678"},
			api.Edns{There: true, Size: 0x1234, High: 0xfe, Version: 0xdc, Flags: 0xba98, Options: []api.Option{{Code: 10, Data: "12345678"}}}},
	}
}

func TestGet(t *testing.T) {
	for _, c := range right() {
		for _, m := range []api.Msg{{Extra: []api.RR{c.r}}, with(c.r), with(c.r, one), with(one, two, c.r), with(one, c.r, two)} {
			if got, why := edns.Get(m); !alike(got, c.e) || why != api.OK {
				t.Errorf("7.1: Get of %s = %v, %d", c.what, got, why)
			}
		}
	}
}

func TestGetOfNone(t *testing.T) {
	for _, m := range []api.Msg{{}, with(), with(one), with(one, api.RR{Name: root, Type: 40, Class: 1232, Data: "\x00"}, api.RR{Name: root, Type: 42})} {
		if got, why := edns.Get(m); !alike(got, api.Edns{}) || why != api.OK {
			t.Errorf("7.1: Get of no OPT record = %v, %d", got, why)
		}
	}
}

// isNot tells that Get of m has that error, and answers nothing else.
func isNot(t *testing.T, what string, m api.Msg, want api.Errno) {
	t.Helper()
	if got, why := edns.Get(m); !alike(got, api.Edns{}) || why != want {
		t.Errorf("7.1: Get of %s = %v, %d, not %d", what, got, why, want)
	}
}

func TestGetOfAnotherSection(t *testing.T) {
	for _, wrong := range []api.RR{opt(""), {Name: org, Type: api.TypeOPT}, opt("\x00")} {
		for _, extra := range [][]api.RR{nil, {one}, {opt("")}, {opt(""), opt("")}} {
			m := with(extra...)
			m.Says = []api.RR{one, wrong}
			isNot(t, "OPT in Says", m, api.ErrForm)
			m = with(extra...)
			m.Heads = []api.RR{wrong, one}
			isNot(t, "OPT in Heads", m, api.ErrForm)
			m.Says = []api.RR{wrong}
			isNot(t, "OPT in Says and Heads", m, api.ErrForm)
		}
	}
}

func TestGetOfTwo(t *testing.T) {
	other := api.RR{Name: org, Type: api.TypeOPT}
	for _, extra := range [][]api.RR{
		{opt(""), opt("")},
		{opt(""), one, opt("\x00\x01\x00\x00")},
		{one, opt(""), opt(""), opt("")},
		{other, opt("")},
		{opt(""), other},
		{opt("\x00"), opt("")},
		{opt(""), opt("\x00")},
	} {
		isNot(t, "two OPT records", with(extra...), api.ErrTwice)
	}
}

func TestGetOfWrong(t *testing.T) {
	for _, n := range []string{org, "\x01\x00\x00", "", ".", "\x00\x00", "\x01a"} {
		isNot(t, "OPT of another name", with(api.RR{Name: n, Type: api.TypeOPT, Class: 1232, Data: "\x00\x01\x00\x00"}), api.ErrForm)
	}
	_, most := options(api.MaxData / 4)
	for _, ahead := range []string{"", "\x00\x01\x00\x00", "\x00\x0a\x00\x0812345678", most[4:]} {
		for _, data := range []string{"\x00", "\x00\x0a", "\x00\x0a\x00", "\x00\x0a\x00\x01", "\x00\x0a\x00\x02a", "\x00\x0a\x01\x00a", "\x00\x0a\xff\xffa"} {
			isNot(t, "data that are no options", with(one, opt(ahead+data)), api.ErrForm)
		}
	}
}

func TestGetOfMuch(t *testing.T) {
	// The limit is of what may be said: nothing forbids to hear more.
	big := strings.Repeat("a", 65535)
	want := api.Edns{There: true, Options: []api.Option{{Code: 1, Data: big}, {Code: 2}}}
	if got, why := edns.Get(with(opt("\x00\x01\xff\xff" + big + "\x00\x02\x00\x00"))); !alike(got, want) || why != api.OK {
		t.Errorf("7.1: Get of much has %d options, %d", len(got.Options), why)
	}
}

func TestPut(t *testing.T) {
	other := api.RR{Name: org, Type: api.TypeOPT, Data: "\x00"}
	for _, c := range right() {
		for _, m := range []api.Msg{with(one, two), with(one, opt(""), two), with(opt("\x00"), opt(""), one, other, two, c.r)} {
			if got, why := edns.Put(m, c.e); !same(got, with(one, two, c.r)) || why != api.OK {
				t.Errorf("7.1: Put of %s = %v, %d", c.what, got, why)
			}
			if got, why := edns.Put(m, api.Edns{}); !same(got, with(one, two)) || why != api.OK {
				t.Errorf("7.1: Put of nothing = %v, %d", got, why)
			}
		}
		for _, m := range []api.Msg{{}, {Extra: []api.RR{opt("")}}, {Extra: []api.RR{other, c.r}}} {
			if got, why := edns.Put(m, c.e); !same(got, api.Msg{Extra: []api.RR{c.r}}) || why != api.OK {
				t.Errorf("7.1: Put of %s = %v, %d", c.what, got, why)
			}
			if got, why := edns.Put(m, api.Edns{Options: []api.Option{}}); !same(got, api.Msg{}) || why != api.OK {
				t.Errorf("7.1: Put of nothing = %v, %d", got, why)
			}
		}
	}
}

func TestPutIntoAnything(t *testing.T) {
	wrong := api.Msg{Id: 9, Asks: []api.Question{{}}, Says: []api.RR{{}, opt("\x00")}, Heads: []api.RR{opt(""), one}, Extra: []api.RR{{}, opt("")}}
	want := wrong
	want.Extra = []api.RR{{}, opt("")}
	if got, why := edns.Put(wrong, api.Edns{There: true}); !same(got, want) || why != api.OK {
		t.Errorf("7.1: Put into a message that is not right = %v, %d", got, why)
	}
	full := api.Msg{Extra: slices.Repeat([]api.RR{one}, api.MaxRRs)}
	if got, why := edns.Put(full, api.Edns{There: true}); len(got.Extra) != api.MaxRRs+1 || got.Extra[api.MaxRRs] != opt("") || why != api.OK {
		t.Errorf("7.1: Put into a full message has %d records, %d", len(got.Extra), why)
	}
}

// unsaid is what may not be said.
func unsaid() []api.Edns {
	many, _ := options(api.MaxData/4 + 1)
	var all []api.Edns
	for _, size := range []int{api.MaxData - 3, api.MaxData, 65535, 65536, 1<<16 + 8, 1 << 17} {
		all = append(all, api.Edns{There: true, Options: []api.Option{{Code: 1, Data: strings.Repeat("a", size)}}})
	}
	half := strings.Repeat("a", api.MaxData/2-4)
	return append(all,
		api.Edns{There: true, Options: many},
		api.Edns{There: true, Options: []api.Option{{Code: 1, Data: half}, {Code: 2, Data: half + "!"}}},
		api.Edns{There: true, Options: []api.Option{{Code: 1, Data: half}, {Code: 2, Data: half}, {Code: 3}}},
		api.Edns{Size: 1232},
		api.Edns{High: 1},
		api.Edns{Version: 1},
		api.Edns{Flags: 0x8000},
		api.Edns{Options: []api.Option{{}}},
		api.Edns{Size: 1232, High: 1, Version: 1, Flags: 1, Options: many},
	)
}

func TestPutOfWrong(t *testing.T) {
	for _, e := range unsaid() {
		for _, m := range []api.Msg{{}, with(one, two), with(one, opt(""))} {
			if got, why := edns.Put(m, e); !same(got, api.Msg{}) || why != api.ErrForm {
				t.Errorf("7.1: Put of what may not be said (%d options, size %d) = %d, not ErrForm", len(e.Options), e.Size, why)
			}
		}
	}
}

func TestCode(t *testing.T) {
	for high := range 256 {
		for _, bits := range []uint16{0, 1, 7, 15, 16, 0x8000, 0xfff0, 0xffff} {
			want := 16*high + int(bits%16)
			for _, there := range []bool{true, false} {
				if got := edns.Code(api.Msg{Bits: bits}, api.Edns{There: there, High: uint8(high), Version: 3, Flags: 5, Size: 7}); got != want {
					t.Fatalf("7.2: Code of bits %x and %x = %d, not %d", bits, high, got, want)
				}
			}
		}
	}
	if got := edns.Code(with(api.RR{Name: root, Type: api.TypeOPT, TTL: 0xff000000}), api.Edns{}); got != 3 {
		t.Errorf("7.2: Code hangs on the message's OPT record: %d", got)
	}
}

func TestSame(t *testing.T) {
	for i, c := range right() {
		for j, d := range right() {
			if got := edns.Same(c.e, d.e); got != (i == j) {
				t.Errorf("7.2: Same of %s and %s = %v", c.what, d.what, got)
			}
		}
	}
	for i, a := range unsaid() {
		for j, b := range unsaid() {
			if got := edns.Same(a, b); got != (i == j) {
				t.Errorf("7.2: Same of two that may not be said, %d and %d, = %v", i, j, got)
			}
		}
	}
	if !edns.Same(api.Edns{}, api.Edns{Options: []api.Option{}}) {
		t.Error("7.2: Same of two without options is false")
	}
}

func TestNotSame(t *testing.T) {
	whole := func() api.Edns {
		return api.Edns{There: true, Size: 1, High: 2, Version: 3, Flags: 4, Options: []api.Option{{Code: 5, Data: "a"}, {Code: 6, Data: "b"}}}
	}
	for what, turn := range map[string]func(*api.Edns){
		"being There":      func(e *api.Edns) { e.There = false },
		"Size":             func(e *api.Edns) { e.Size++ },
		"High":             func(e *api.Edns) { e.High++ },
		"Version":          func(e *api.Edns) { e.Version++ },
		"Flags":            func(e *api.Edns) { e.Flags++ },
		"no options":       func(e *api.Edns) { e.Options = nil },
		"an option less":   func(e *api.Edns) { e.Options = e.Options[:1] },
		"an option more":   func(e *api.Edns) { e.Options = append(e.Options, e.Options[1]) },
		"an option's code": func(e *api.Edns) { e.Options[1].Code++ },
		"an option's data": func(e *api.Edns) { e.Options[0].Data = "A" },
		"options' order":   func(e *api.Edns) { slices.Reverse(e.Options) },
	} {
		e := whole()
		turn(&e)
		if edns.Same(whole(), e) || edns.Same(e, whole()) {
			t.Errorf("7.2: Same of two that part in %s", what)
		}
	}
	if !edns.Same(whole(), whole()) {
		t.Error("7.2: Same of two that are equal is false")
	}
}

func TestAnswersAreNewMemory(t *testing.T) {
	m := with(one, opt(""), two)
	e := api.Edns{There: true, Options: []api.Option{{Code: 1, Data: "a"}, {Code: 10, Data: "b"}, {Code: 2, Data: "c"}}}
	put, _ := edns.Put(m, e)
	if !same(m, with(one, opt(""), two)) || !same(put, with(one, two, opt("\x00\x01\x00\x01a\x00\x0a\x00\x01b\x00\x02\x00\x01c"))) {
		t.Fatalf("7.3: Put changed %v into %v", m, put)
	}
	put.Asks[0].Type, put.Says[0].TTL, put.Heads[0].TTL, put.Extra[0].TTL = 99, 99, 99, 99
	if !same(m, with(one, opt(""), two)) {
		t.Error("7.3: Put's answer shares the message's memory")
	}
	none, _ := edns.Put(m, api.Edns{})
	none.Asks[0].Type, none.Says[0].TTL, none.Heads[0].TTL, none.Extra[0].TTL = 99, 99, 99, 99
	if !same(m, with(one, opt(""), two)) {
		t.Error("7.3: Put's answer, of nothing, shares the message's memory")
	}
	got, _ := edns.With(e, "12345678", "")
	got.Options[0].Code, got.Options[2].Code = 99, 99
	if !slices.Equal(e.Options, []api.Option{{Code: 1, Data: "a"}, {Code: 10, Data: "b"}, {Code: 2, Data: "c"}}) || !e.There {
		t.Errorf("7.3: With changed its options into %v", e.Options)
	}
}

func TestNoRoomIsShared(t *testing.T) {
	room := append(make([]api.Option, 0, 8), api.Option{Code: 1})
	first, _ := edns.With(api.Edns{Options: room}, "12345678", "")
	second, _ := edns.With(api.Edns{Options: room}, "abcdefgh", "")
	if first.Options[1].Data != "12345678" || second.Options[1].Data != "abcdefgh" || room[:2][1] != (api.Option{}) {
		t.Error("7.3: With writes behind the options that it was handed")
	}
	extra := append(make([]api.RR, 0, 8), one)
	a, _ := edns.Put(api.Msg{Extra: extra}, api.Edns{There: true, Size: 1})
	b, _ := edns.Put(api.Msg{Extra: extra}, api.Edns{There: true, Size: 2})
	if a.Extra[1].Class != 1 || b.Extra[1].Class != 2 || extra[:2][1] != (api.RR{}) {
		t.Error("7.3: Put writes behind the records that it was handed")
	}
}
