package message_test

import (
	"math"
	"slices"
	"strings"
	"testing"

	"hardtack/api"
	"hardtack/message"
)

const (
	root  = "\x00"
	org   = "\x03org\x00"
	wwwEx = "\x03www\x02Ex\x03ORG\x00"
	tail  = "\x00\x00\x00\x01ABCDabcd\x7f\xff\xff\xff\x00\x00\x0e\x10"
)

// noNames are texts that are no names, each for another cause.
func noNames() []string {
	return []string{"", "\x01a", "a.", "\x03ab", "\x00\x00", "\x01a\x00b", "\xc0\x0c", "\x40" + strings.Repeat("a", 64) + root, strings.Repeat("\x01a", 128) + root}
}

// full is a message with something in each of its sections.
func full() api.Msg {
	return api.Msg{
		Id:   0x1234,
		Bits: api.BitQR | api.BitAA | api.BitRD | api.BitRA | api.CodeName,
		Asks: []api.Question{{Name: wwwEx, Type: api.TypeMX, Class: 1}},
		Says: []api.RR{
			{Name: wwwEx, Type: api.TypeMX, Class: 1, TTL: 60, Data: "\x00\x05\x01m" + wwwEx},
			{Name: wwwEx, Type: api.TypeMX, Class: 1, TTL: 61, Data: "\x00\x06\x01n" + wwwEx},
		},
		Heads: []api.RR{{Name: "\x03ORG\x00", Type: api.TypeSOA, Class: 1, TTL: 62, Data: wwwEx + "\x01h" + wwwEx + tail}},
		Extra: []api.RR{
			{Name: "\x01m" + wwwEx, Type: api.TypeA, Class: 1, TTL: 63, Data: "\x01\x02\x03\x04"},
			{Name: root, Type: api.TypeOPT, Class: 1232, TTL: 0xff008000, Data: "\x00\x0a\x00\x01!"},
			{Name: "\x01n" + wwwEx, Type: api.TypeTXT, Class: 3, TTL: api.MaxTTL, Data: "\x01a\x00"},
		},
	}
}

// fullBytes are the bytes of full, laid out by hand: what is pointed to stands at c (www), 13 (ORG), 2a (m) and 3c (n).
const fullBytes = "\x12\x34\x85\x83\x00\x01\x00\x02\x00\x01\x00\x03" +
	wwwEx + "\x00\x0f\x00\x01" +
	"\xc0\x0c\x00\x0f\x00\x01\x00\x00\x00\x3c\x00\x06\x00\x05\x01m\xc0\x0c" +
	"\xc0\x0c\x00\x0f\x00\x01\x00\x00\x00\x3d\x00\x06\x00\x06\x01n\xc0\x0c" +
	"\xc0\x13\x00\x06\x00\x01\x00\x00\x00\x3e\x00\x1a\xc0\x0c\x01h\xc0\x0c" + tail +
	"\xc0\x2a\x00\x01\x00\x01\x00\x00\x00\x3f\x00\x04\x01\x02\x03\x04" +
	"\x00\x00\x29\x04\xd0\xff\x00\x80\x00\x00\x05\x00\x0a\x00\x01!" +
	"\xc0\x3c\x00\x10\x00\x03\x7f\xff\xff\xff\x00\x03\x01a\x00"

func clone(m api.Msg) api.Msg {
	m.Asks, m.Says, m.Heads, m.Extra = slices.Clone(m.Asks), slices.Clone(m.Says), slices.Clone(m.Heads), slices.Clone(m.Extra)
	return m
}

// same holds messages against each other without the package's help.
func same(a, b api.Msg) bool {
	return a.Id == b.Id && a.Bits == b.Bits && slices.Equal(a.Asks, b.Asks) && slices.Equal(a.Says, b.Says) && slices.Equal(a.Heads, b.Heads) && slices.Equal(a.Extra, b.Extra)
}

// times is a list of so many of one thing.
func times[T any](x T, many int) []T { return slices.Repeat([]T{x}, many) }

// small is a record of 11 bytes.
var small = api.RR{Name: root, Type: 99}

type example struct {
	what string
	m    api.Msg
}

func right() []example {
	return []example{
		{"nothing", api.Msg{}},
		{"all bits", api.Msg{Id: 65535, Bits: 65535}},
		{"something in each section", full()},
		{"most questions", api.Msg{Asks: times(api.Question{Name: root}, api.MaxRRs)}},
		{"most answers", api.Msg{Says: times(small, api.MaxRRs)}},
		{"most of authority", api.Msg{Heads: times(small, api.MaxRRs)}},
		{"most of the rest", api.Msg{Extra: times(small, api.MaxRRs)}},
		{"a question of any type and class", api.Msg{Asks: []api.Question{{Name: wwwEx, Type: 65535, Class: 65535}}}},
		{"OPT of any time", api.Msg{Extra: []api.RR{{Name: root, Type: api.TypeOPT, TTL: 1<<32 - 1}}}},
	}
}

func wrong() []example {
	all := []example{
		{"too many questions", api.Msg{Asks: times(api.Question{Name: root}, api.MaxRRs+1)}},
		{"65536 questions", api.Msg{Asks: times(api.Question{Name: root}, 1<<16)}},
		{"too many answers", api.Msg{Says: times(small, api.MaxRRs+1)}},
		{"too many of authority", api.Msg{Heads: times(small, api.MaxRRs+1)}},
		{"too many of the rest", api.Msg{Extra: times(small, api.MaxRRs+1)}},
		{"65536 of the rest", api.Msg{Extra: times(small, 1<<16)}},
	}
	for _, n := range noNames() {
		all = append(all, example{"a question of no name", api.Msg{Asks: []api.Question{{Name: root}, {Name: n, Type: 1, Class: 1}}}})
	}
	for _, r := range []api.RR{
		{},
		{Name: "\x01a", Type: api.TypeA, Class: 1, TTL: 1, Data: "AAAA"},
		{Name: org, Type: api.TypeA, Class: 1, TTL: 1, Data: "AAA"},
		{Name: org, Type: api.TypeA, Class: 1, TTL: api.MaxTTL + 1, Data: "AAAA"},
		{Name: org, Type: 99, Class: 1, TTL: 1, Data: strings.Repeat("a", api.MaxData+1)},
	} {
		l := []api.RR{small, r}
		all = append(all, example{"a wrong answer", api.Msg{Says: l}}, example{"wrong authority", api.Msg{Heads: l}}, example{"a wrong rest", api.Msg{Extra: l}})
	}
	return all
}

func TestCheck(t *testing.T) {
	for _, c := range right() {
		if why := message.Check(c.m); why != api.OK {
			t.Errorf("6.1: Check of a message with %s = %d", c.what, why)
		}
	}
	for _, c := range wrong() {
		if why := message.Check(c.m); why != api.ErrForm {
			t.Errorf("6.1: Check of a message with %s = %d, not ErrForm", c.what, why)
		}
	}
}

func TestCodeAndOp(t *testing.T) {
	for n := range 1 << 16 {
		m := api.Msg{Id: 0xffff, Bits: uint16(n)}
		if got := message.Code(m); got != n%16 {
			t.Fatalf("6.2: Code of %x = %d", n, got)
		}
		if got := message.Op(m); got != n/0x800%16 {
			t.Fatalf("6.2: Op of %x = %d", n, got)
		}
	}
	wrong := api.Msg{Bits: 0x2805, Asks: []api.Question{{}}}
	if message.Code(wrong) != 5 || message.Op(wrong) != 5 {
		t.Error("6.2: Code and Op hang on more than bits")
	}
}

func TestReply(t *testing.T) {
	for _, c := range []struct {
		bits uint16
		code int
		want uint16
	}{
		{0, 0, 0x8000},
		{0, api.CodeName, 0x8003},
		{api.BitRD, api.CodeRefuse, 0x8105},
		{0x2800, 4, 0xa804},
		{0xffff, 0, 0xf900},
		{0xffff, 15, 0xf90f},
		{0x8680, 1, 0x8001},
		{0x000f, 0, 0x8000},
		{0, 16, 0x8000},
		{0, api.CodeCookie, 0x8007},
		{0, 0x7fffffff, 0x800f},
		{0, -1, 0x800f},
		{0, -16, 0x8000},
		{0, math.MinInt, 0x8000},
		{0, math.MaxInt, 0x800f},
		{0, 1 << 20, 0x8000},
	} {
		m := full()
		m.Bits = c.bits
		want := api.Msg{Id: 0x1234, Bits: c.want, Asks: m.Asks}
		if got := message.Reply(m, c.code); !same(got, want) {
			t.Errorf("6.2: Reply to bits %x with %d = %v, not bits %x", c.bits, c.code, got, c.want)
		}
	}
}

func TestReplyToAnything(t *testing.T) {
	for _, asks := range [][]api.Question{
		nil,
		{},
		{{Name: "no name"}},
		{{Name: wwwEx, Type: 1, Class: 2}, {}, {Name: wwwEx, Type: 3, Class: 4}},
		times(api.Question{}, api.MaxRRs+1),
	} {
		if got := message.Reply(api.Msg{Id: 7, Asks: asks, Says: []api.RR{{}}}, 2); !same(got, api.Msg{Id: 7, Bits: 0x8002, Asks: asks}) {
			t.Errorf("6.2: Reply to %d questions = %v", len(asks), got)
		}
	}
}

func TestSame(t *testing.T) {
	for _, c := range slices.Concat(right(), wrong()) {
		if !message.Same(c.m, clone(c.m)) {
			t.Errorf("6.2: Same of a message with %s, and itself, is false", c.what)
		}
	}
	if !message.Same(api.Msg{}, api.Msg{Asks: []api.Question{}, Says: []api.RR{}, Heads: []api.RR{}, Extra: []api.RR{}}) {
		t.Error("6.2: Same of two messages without sections is false")
	}
}

func TestNotSame(t *testing.T) {
	for what, turn := range map[string]func(*api.Msg){
		"number":              func(m *api.Msg) { m.Id++ },
		"bits":                func(m *api.Msg) { m.Bits ^= 0x40 },
		"no questions":        func(m *api.Msg) { m.Asks = nil },
		"a question more":     func(m *api.Msg) { m.Asks = append(m.Asks, m.Asks[0]) },
		"a question's name":   func(m *api.Msg) { m.Asks[0].Name = org },
		"a question's letter": func(m *api.Msg) { m.Asks[0].Name = "\x03www\x02ex\x03ORG\x00" },
		"a question's type":   func(m *api.Msg) { m.Asks[0].Type++ },
		"a question's class":  func(m *api.Msg) { m.Asks[0].Class++ },
		"no answers":          func(m *api.Msg) { m.Says = nil },
		"an answer less":      func(m *api.Msg) { m.Says = m.Says[:1] },
		"answers' order":      func(m *api.Msg) { slices.Reverse(m.Says) },
		"an answer's name":    func(m *api.Msg) { m.Says[1].Name = org },
		"an answer's type":    func(m *api.Msg) { m.Says[1].Type++ },
		"an answer's class":   func(m *api.Msg) { m.Says[1].Class++ },
		"an answer's time":    func(m *api.Msg) { m.Says[1].TTL++ },
		"an answer's data":    func(m *api.Msg) { m.Says[1].Data += "!" },
		"authority":           func(m *api.Msg) { m.Heads[0].TTL++ },
		"no authority":        func(m *api.Msg) { m.Heads = nil },
		"the rest":            func(m *api.Msg) { m.Extra[2].TTL-- },
		"no rest":             func(m *api.Msg) { m.Extra = nil },
		"another section":     func(m *api.Msg) { m.Says, m.Heads = m.Heads, m.Says },
	} {
		m := full()
		turn(&m)
		if message.Same(full(), m) || message.Same(m, full()) {
			t.Errorf("6.2: Same of two messages that part in %s", what)
		}
	}
}

func TestAnswersAreNewMemory(t *testing.T) {
	m := full()
	r := message.Reply(m, 0)
	r.Asks[0].Name = "changed"
	if !same(m, full()) {
		t.Error("6.3: Reply shares its questions")
	}
	r = message.Reply(m, 0)
	m.Asks[0].Name = "changed"
	if r.Asks[0].Name != wwwEx {
		t.Error("6.3: Reply shares its questions")
	}
	one, _ := message.Read(fullBytes)
	one.Says[0].Data, one.Asks[0].Name, one.Heads[0].TTL, one.Extra[0].Class = "changed", "changed", 9, 9
	if again, _ := message.Read(fullBytes); !same(again, full()) {
		t.Error("6.3: Read shares what it answers")
	}
}
