package message_test

import (
	"math"
	"slices"
	"strings"
	"testing"

	"hardtack/api"
	"hardtack/message"
)

func TestWrite(t *testing.T) {
	for _, c := range []struct {
		what string
		m    api.Msg
		want string
	}{
		{"nothing", api.Msg{}, strings.Repeat("\x00", 12)},
		{"numbers", api.Msg{Id: 0xfedc, Bits: 0x8765}, "\xfe\xdc\x87\x65" + strings.Repeat("\x00", 8)},
		{"something in each section", full(), fullBytes},
		{"questions that point", api.Msg{Asks: []api.Question{{Name: wwwEx, Type: 0x1234, Class: 0x5678}, {Name: "\x01a\x03ORG\x00", Type: 255, Class: 1}}},
			"\x00\x00\x00\x00\x00\x02\x00\x00\x00\x00\x00\x00" + wwwEx + "\x12\x34\x56\x78\x01a\xc0\x13\x00\xff\x00\x01"},
		{"many questions", api.Msg{Asks: times(api.Question{Name: root, Type: 1, Class: 1}, 0x201)},
			"\x00\x00\x00\x00\x02\x01\x00\x00\x00\x00\x00\x00" + strings.Repeat("\x00\x00\x01\x00\x01", 0x201)},
		{"many of the rest", api.Msg{Extra: times(small, 0x102)},
			"\x00\x00\x00\x00\x00\x00\x00\x00\x00\x00\x01\x02" + strings.Repeat("\x00\x00\x63\x00\x00\x00\x00\x00\x00\x00\x00", 0x102)},
	} {
		for _, limit := range []int{len(c.want), len(c.want) + 1, api.MaxBytes, math.MaxInt} {
			if got, why := message.Write(c.m, limit); got != c.want || why != api.OK {
				t.Errorf("6.1: Write of %s with limit %d = %q, %d", c.what, limit, got, why)
			}
		}
		for _, limit := range []int{len(c.want) - 1, 11, 0, -1, math.MinInt} {
			if got, why := message.Write(c.m, limit); got != "" || why != api.ErrLong {
				t.Errorf("6.1: Write of %s with limit %d = %q, %d, not ErrLong", c.what, limit, got, why)
			}
		}
	}
}

func TestWriteWrong(t *testing.T) {
	for _, c := range wrong() {
		for _, limit := range []int{0, 20, math.MaxInt} {
			if got, why := message.Write(c.m, limit); got != "" || why != api.ErrForm {
				t.Errorf("6.1: Write of a message with %s = %d bytes, %d, not ErrForm", c.what, len(got), why)
			}
			if got, why := message.Fit(c.m, limit); got != "" || why != api.ErrForm {
				t.Errorf("6.2: Fit of a message with %s = %d bytes, %d, not ErrForm", c.what, len(got), why)
			}
		}
	}
}

// sized is a message that is written as so many bytes.
func sized(size int) api.Msg {
	const own = 11
	var m api.Msg
	for left := size - 12; left > 0; {
		data := left - own
		if data > api.MaxData {
			data = 4000
		}
		m.Says = append(m.Says, api.RR{Name: root, Type: 99, Data: strings.Repeat("x", data)})
		left -= own + data
	}
	return m
}

func TestWriteOfMostBytes(t *testing.T) {
	for _, size := range []int{12, 23, 65534, 65535} {
		if got, why := message.Write(sized(size), math.MaxInt); len(got) != size || why != api.OK {
			t.Errorf("6.1: Write of %d bytes = %d bytes, %d", size, len(got), why)
		}
		if got, why := message.Fit(sized(size), math.MaxInt); len(got) != size || why != api.OK {
			t.Errorf("6.2: Fit of %d bytes = %d bytes, %d", size, len(got), why)
		}
	}
	for _, size := range []int{65536, 65537, 70000, 140000} {
		for _, limit := range []int{65535, 65536, size, math.MaxInt} {
			if got, why := message.Write(sized(size), limit); got != "" || why != api.ErrLong {
				t.Errorf("6.1: Write of %d bytes with limit %d = %d bytes, %d, not ErrLong", size, limit, len(got), why)
			}
			if got, why := message.Fit(sized(size), limit); got != "\x00\x00\x02\x00"+strings.Repeat("\x00", 8) || why != api.OK {
				t.Errorf("6.2: Fit of %d bytes with limit %d = %q, %d", size, limit, got, why)
			}
		}
	}
}

func TestFit(t *testing.T) {
	const short = "\x12\x34\x87\x83\x00\x01\x00\x00\x00\x00\x00\x02" + wwwEx + "\x00\x0f\x00\x01" +
		"\x00\x00\x29\x04\xd0\xff\x00\x80\x00\x00\x05\x00\x0a\x00\x01!" +
		"\x01m\xc0\x0c\x00\x29\x00\x00\x00\x00\x00\x00\x00\x00"
	m := full()
	m.Extra = append(m.Extra, api.RR{Name: "\x01m" + wwwEx, Type: api.TypeOPT})
	whole, why := message.Write(m, api.MaxBytes)
	if why != api.OK {
		t.Fatalf("6.1: Write = %d", why)
	}
	for limit := range len(whole) + 10 {
		want, code := "", api.ErrLong
		if limit >= len(short) {
			want, code = short, api.OK
		}
		if limit >= len(whole) {
			want = whole
		}
		had := clone(m)
		if got, why := message.Fit(m, limit); got != want || why != code {
			t.Errorf("6.2: Fit with limit %d = %q, %d, not %q, %d", limit, got, why, want, code)
		}
		if !same(m, had) {
			t.Fatalf("6.2: Fit with limit %d changed its message", limit)
		}
	}
	if got, why := message.Fit(m, -1); got != "" || why != api.ErrLong {
		t.Errorf("6.2: Fit with limit -1 = %q, %d, not ErrLong", got, why)
	}
}

func TestFitKeepsNoOptOfAnswers(t *testing.T) {
	opt := api.RR{Name: root, Type: api.TypeOPT, Class: 512}
	m := api.Msg{Bits: api.BitTC | api.BitQR, Says: times(opt, 3), Heads: times(opt, 3)}
	if got, why := message.Fit(m, 40); got != "\x00\x00\x82\x00"+strings.Repeat("\x00", 8) || why != api.OK {
		t.Errorf("6.2: Fit of OPT records in other sections = %q, %d", got, why)
	}
}

func TestHead(t *testing.T) {
	for _, c := range []struct {
		s        string
		id, bits uint16
		why      api.Errno
	}{
		{fullBytes, 0x1234, 0x8583, api.OK},
		{fullBytes[:12], 0x1234, 0x8583, api.OK},
		{strings.Repeat("\xff", 12), 0xffff, 0xffff, api.OK},
		{"\x00\x01\x02\x00garbage " + strings.Repeat("!", 1<<17), 1, 0x0200, api.OK},
		{fullBytes[:11], 0, 0, api.ErrShort},
		{fullBytes[:4], 0, 0, api.ErrShort},
		{fullBytes[:1], 0, 0, api.ErrShort},
		{"", 0, 0, api.ErrShort},
	} {
		if id, bits, why := message.Head(c.s); id != c.id || bits != c.bits || why != c.why {
			t.Errorf("6.1: Head of %d bytes = %x, %x, %d", len(c.s), id, bits, why)
		}
	}
}

func TestRead(t *testing.T) {
	for _, c := range []struct {
		what string
		s    string
		want api.Msg
	}{
		{"nothing", strings.Repeat("\x00", 12), api.Msg{}},
		{"numbers", "\xfe\xdc\x87\x65" + strings.Repeat("\x00", 8), api.Msg{Id: 0xfedc, Bits: 0x8765}},
		{"something in each section", fullBytes, full()},
		{"names without pointers",
			"\x00\x00\x00\x00\x00\x02\x00\x00\x00\x00\x00\x00" + wwwEx + "\x12\x34\x56\x78" + wwwEx + "\x00\xff\x00\x01",
			api.Msg{Asks: []api.Question{{Name: wwwEx, Type: 0x1234, Class: 0x5678}, {Name: wwwEx, Type: 255, Class: 1}}}},
		{"a root that is pointed to, and a pointer to a pointer",
			"\x00\x00\x00\x00\x00\x03\x00\x00\x00\x00\x00\x00\x01a\x00\x00\x01\x00\x01\xc0\x0e\x00\x01\x00\x01\x01b\xc0\x13\x00\x01\x00\x01",
			api.Msg{Asks: []api.Question{{Name: "\x01a\x00", Type: 1, Class: 1}, {Name: root, Type: 1, Class: 1}, {Name: "\x01b\x00", Type: 1, Class: 1}}}},
		{"a name that stands in the head",
			"\x01a\x00\x00\x00\x01\x00\x00\x00\x00\x00\x00\xc0\x00\x00\x01\x00\x01",
			api.Msg{Id: 0x0161, Asks: []api.Question{{Name: "\x01a\x00", Type: 1, Class: 1}}}},
		{"SRV by a pointer",
			"\x00\x00\x00\x00\x00\x00\x00\x01\x00\x00\x00\x00" + org + "\x00\x21\x00\x01\x00\x00\x00\x01\x00\x08\x00\x01\x00\x02\x00\x03\xc0\x0c",
			api.Msg{Says: []api.RR{{Name: org, Type: api.TypeSRV, Class: 1, TTL: 1, Data: "\x00\x01\x00\x02\x00\x03" + org}}}},
		{"times that are too great, and OPT",
			"\x00\x00\x00\x00\x00\x00\x00\x00\x00\x01\x00\x02\x00\x00\x63\x00\x01\x80\x00\x00\x00\x00\x00" +
				"\x00\x00\x63\x00\x01\x7f\xff\xff\xff\x00\x00\x00\x00\x29\x00\x01\x80\x00\x00\x00\x00\x00",
			api.Msg{Heads: []api.RR{{Name: root, Type: 99, Class: 1}}, Extra: []api.RR{{Name: root, Type: 99, Class: 1, TTL: api.MaxTTL}, {Name: root, Type: api.TypeOPT, Class: 1, TTL: 1 << 31}}}},
		{"most of each section",
			"\x00\x00\x00\x00\x10\x00\x10\x00\x10\x00\x10\x00" + strings.Repeat("\x00\x00\x01\x00\x01", 4096) + strings.Repeat("\x00\x00\x63\x00\x00\x00\x00\x00\x00\x00\x00", 3*4096),
			api.Msg{Asks: times(api.Question{Name: root, Type: 1, Class: 1}, 4096), Says: times(small, 4096), Heads: times(small, 4096), Extra: times(small, 4096)}},
	} {
		if got, why := message.Read(c.s); !same(got, c.want) || why != api.OK {
			t.Errorf("6.1: Read of %s = %v, %d", c.what, got, why)
		}
		if got, why := message.Read(c.s + "\x00"); !same(got, api.Msg{}) || why != api.ErrCode {
			t.Errorf("6.1: Read of %s, and a byte behind, = %v, %d, not ErrCode", c.what, got, why)
		}
	}
}

func TestReadOfTooFewBytes(t *testing.T) {
	for size := range len(fullBytes) {
		if got, why := message.Read(fullBytes[:size]); !same(got, api.Msg{}) || why != api.ErrShort {
			t.Errorf("6.1: Read of %d bytes of %d = %v, %d, not ErrShort", size, len(fullBytes), got, why)
		}
	}
	for size := range 12 {
		if _, why := message.Read(strings.Repeat("\xff", size)); why != api.ErrShort {
			t.Errorf("6.1: Read of %d bytes ff = %d, not ErrShort", size, why)
		}
	}
}

// counts lays a head with such counts.
func counts(asks, says, heads, extra int) string {
	s := []byte("\x12\x34\x00\x00")
	for _, n := range []int{asks, says, heads, extra} {
		s = append(s, byte(n>>8), byte(n))
	}
	return string(s)
}

func TestReadOfTooMany(t *testing.T) {
	const wrong = "\x00\x00\x01\x00\x01\x00\x00\x00\x00\x00\x00"
	for _, many := range []int{4097, 0x8000, 65535} {
		for _, head := range []string{counts(many, 0, 0, 0), counts(0, many, 0, 0), counts(0, 0, many, 0), counts(0, 0, 0, many), counts(1, 1, 1, many), counts(many, many, many, many)} {
			for _, behind := range []string{"", "\x40", wrong, strings.Repeat("\x00\x00\x63\x00\x00\x00\x00\x00\x00\x00\x00", many)} {
				if got, why := message.Read(head + behind); !same(got, api.Msg{}) || why != api.ErrLong {
					t.Errorf("6.1: Read of counts %q, %d bytes behind, = %d, not ErrLong", head, len(behind), why)
				}
			}
		}
	}
	for _, head := range []string{counts(4096, 0, 0, 0), counts(0, 4096, 0, 0), counts(0, 0, 4096, 0), counts(0, 0, 0, 4096), counts(4096, 4096, 4096, 4096)} {
		if _, why := message.Read(head); why != api.ErrShort {
			t.Errorf("6.1: Read of counts %q alone = %d, not ErrShort", head, why)
		}
	}
}

func TestReadWrong(t *testing.T) {
	const (
		ask   = "\x01a\x00\x00\x01\x00\x01"
		good  = "\x00\x00\x63\x00\x01\x00\x00\x00\x00\x00\x00"
		none  = "\x00\x00\x01\x00\x01\x00\x00\x00\x00\x00\x03AAA"
		late  = "\x00\x00\x63\x00\x01\x00\x00\x00\x00\x00\x04AAA"
		nobod = "\x40\x00\x63\x00\x01\x00\x00\x00\x00\x00\x00"
	)
	for _, c := range []struct {
		what string
		s    string
		want api.Errno
	}{
		{"something behind nothing", counts(0, 0, 0, 0) + "\x00", api.ErrCode},
		{"something behind", counts(1, 1, 1, 1) + ask + good + good + good + "!", api.ErrCode},
		{"a count that is too small", counts(1, 1, 0, 1) + ask + good + good + good, api.ErrCode},
		{"a count that is too great", counts(1, 1, 2, 1) + ask + good + good + good, api.ErrShort},
		{"a question too many", counts(2, 0, 0, 0) + ask, api.ErrShort},
		{"a question that ends too soon", counts(1, 0, 0, 0) + ask[:6], api.ErrShort},
		{"a question of no name", counts(1, 0, 0, 0) + "\x40" + ask, api.ErrShort},
		{"a question that points to itself", counts(1, 0, 0, 0) + "\xc0\x0c\x00\x01\x00\x01", api.ErrShort},
		{"a question that points forth", counts(2, 0, 0, 0) + "\xc0\x12\x00\x01\x00\x01" + ask, api.ErrShort},
		{"data that are none", counts(0, 1, 0, 0) + none, api.ErrCode},
		{"data that are none, of authority", counts(1, 1, 1, 1) + ask + good + none + good, api.ErrCode},
		{"data that are none, of the rest", counts(1, 1, 1, 1) + ask + good + good + none, api.ErrCode},
		{"a record of no name", counts(0, 1, 0, 0) + nobod, api.ErrShort},
		{"data that end too soon", counts(0, 0, 0, 1) + late, api.ErrShort},
		{"data that are none, and then too few", counts(0, 1, 1, 0) + none, api.ErrCode},
		{"data that are none, and then no name", counts(0, 1, 1, 0) + none + nobod, api.ErrCode},
		{"no name, and then data that are none", counts(0, 1, 1, 0) + nobod + none, api.ErrShort},
		{"data that end too soon, for what follows", counts(0, 1, 0, 1) + late, api.ErrShort},
		{"data that are none, and something behind", counts(0, 1, 0, 0) + none + "!", api.ErrCode},
		{"a name in data that points forth", counts(0, 1, 0, 0) + "\x00\x00\x02\x00\x01\x00\x00\x00\x00\x00\x02\xc0\x17", api.ErrCode},
	} {
		if got, why := message.Read(c.s); !same(got, api.Msg{}) || why != c.want {
			t.Errorf("6.1: Read of %s = %v, %d, not %d", c.what, got, why, c.want)
		}
	}
}

func TestReadOfMoreThanIsWritten(t *testing.T) {
	m := sized(70000)
	s := counts(0, len(m.Says), 0, 0)
	for _, r := range m.Says {
		s += "\x00\x00\x63\x00\x00\x00\x00\x00\x00" + string([]byte{byte(len(r.Data) >> 8), byte(len(r.Data))}) + r.Data
	}
	if got, why := message.Read(s); why != api.OK || !slices.Equal(got.Says, m.Says) {
		t.Errorf("6.1: Read of %d bytes = %d", len(s), why)
	}
}
