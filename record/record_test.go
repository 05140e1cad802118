package record_test

import (
	"strings"
	"testing"

	"hardtack/api"
	"hardtack/pack"
	"hardtack/record"
)

const (
	root  = "\x00"
	org   = "\x03org\x00"
	wwwEx = "\x03www\x02Ex\x03ORG\x00"
	tail  = "\x00\x00\x00\x01ABCDabcd\x7f\xff\xff\xff\x00\x00\x0e\x10"
)

// wide is a name of MaxName bytes.
func wide() string {
	long := "\x3f" + strings.Repeat("W", 63)
	return long + long + long + "\x3d" + strings.Repeat("w", 61) + root
}

// noNames are texts that are no names, each for another cause.
func noNames() []string {
	return []string{
		"", "\x01a", "a.", "\x03ab", "\x00\x00", "\x01a\x00b", "\xc0\x00", "\x01a\xc0\x00",
		"\x40" + strings.Repeat("a", 64) + root,
		"\x01a" + wide(),
	}
}

// example is a record with what it is there for.
type example struct {
	what string
	r    api.RR
}

func right() []example {
	return []example{
		{"A", api.RR{Name: wwwEx, Type: api.TypeA, Class: 1, TTL: 60, Data: "\x01\x02\x03\x04"}},
		{"A of the root", api.RR{Name: root, Type: api.TypeA, Class: 1, TTL: 60, Data: "\x00\x00\x00\x00"}},
		{"A of the widest name", api.RR{Name: wide(), Type: api.TypeA, Class: 1, TTL: 60, Data: "AAAA"}},
		{"A that is not kept", api.RR{Name: org, Type: api.TypeA, Class: 1, TTL: 0, Data: "AAAA"}},
		{"A of the greatest time", api.RR{Name: org, Type: api.TypeA, Class: 1, TTL: api.MaxTTL, Data: "AAAA"}},
		{"A of class 0", api.RR{Name: org, Type: api.TypeA, Class: 0, TTL: 1, Data: "AAAA"}},
		{"A of the last class", api.RR{Name: org, Type: api.TypeA, Class: 65535, TTL: 1, Data: "AAAA"}},
		{"AAAA", api.RR{Name: org, Type: api.TypeAAAA, Class: 1, TTL: 1, Data: "0123456789abcdef"}},
		{"NS", api.RR{Name: org, Type: api.TypeNS, Class: 1, TTL: 1, Data: wwwEx}},
		{"CNAME", api.RR{Name: org, Type: api.TypeCNAME, Class: 1, TTL: 1, Data: root}},
		{"PTR", api.RR{Name: org, Type: api.TypePTR, Class: 1, TTL: 1, Data: wide()}},
		{"MX", api.RR{Name: org, Type: api.TypeMX, Class: 1, TTL: 1, Data: "\x00\x05" + wwwEx}},
		{"SRV", api.RR{Name: org, Type: api.TypeSRV, Class: 1, TTL: 1, Data: "\x00\x01\x00\x02\x00\x35" + wwwEx}},
		{"SOA", api.RR{Name: org, Type: api.TypeSOA, Class: 1, TTL: 1, Data: wwwEx + "\x01h" + wwwEx + tail}},
		{"SOA of wide names", api.RR{Name: org, Type: api.TypeSOA, Class: 1, TTL: 1, Data: wide() + wide() + tail}},
		{"TXT", api.RR{Name: org, Type: api.TypeTXT, Class: 1, TTL: 1, Data: "\x02Ab\x00\x01c"}},
		{"OPT", api.RR{Name: root, Type: api.TypeOPT, Class: 1232, TTL: 0, Data: ""}},
		{"OPT of the greatest time", api.RR{Name: root, Type: api.TypeOPT, Class: 4096, TTL: api.MaxTTL, Data: "\x00\x0a\x00\x01!"}},
		{"OPT of a greater time", api.RR{Name: root, Type: api.TypeOPT, Class: 4096, TTL: api.MaxTTL + 1, Data: ""}},
		{"OPT of all bits", api.RR{Name: org, Type: api.TypeOPT, Class: 65535, TTL: 1<<32 - 1, Data: "\xff"}},
		{"another type", api.RR{Name: org, Type: 99, Class: 1, TTL: 1, Data: "\xc0\x00\x01A\x00"}},
		{"another type without data", api.RR{Name: org, Type: 65535, Class: 1, TTL: 1, Data: ""}},
		{"another type with most data", api.RR{Name: org, Type: 0, Class: 1, TTL: 1, Data: strings.Repeat("\x80", api.MaxData)}},
	}
}

func wrong() []example {
	all := []example{
		{"nothing", api.RR{}},
		{"a time that is too great", api.RR{Name: org, Type: api.TypeA, Class: 1, TTL: api.MaxTTL + 1, Data: "AAAA"}},
		{"the last time", api.RR{Name: org, Type: 99, Class: 1, TTL: 1<<32 - 1, Data: "AAAA"}},
		{"a time that is too great, of ANY", api.RR{Name: org, Type: api.TypeANY, Class: 1, TTL: api.MaxTTL + 1}},
		{"A without data", api.RR{Name: org, Type: api.TypeA, Class: 1, TTL: 1}},
		{"A of 5 bytes", api.RR{Name: org, Type: api.TypeA, Class: 1, TTL: 1, Data: "AAAAA"}},
		{"NS of no name", api.RR{Name: org, Type: api.TypeNS, Class: 1, TTL: 1, Data: "\x01a"}},
		{"NS of a pointer", api.RR{Name: org, Type: api.TypeNS, Class: 1, TTL: 1, Data: "\xc0\x00"}},
		{"SOA without numbers", api.RR{Name: org, Type: api.TypeSOA, Class: 1, TTL: 1, Data: org + org}},
		{"TXT without texts", api.RR{Name: org, Type: api.TypeTXT, Class: 1, TTL: 1}},
		{"too many data", api.RR{Name: org, Type: 99, Class: 1, TTL: 1, Data: strings.Repeat("A", api.MaxData+1)}},
		{"OPT with too many data", api.RR{Name: root, Type: api.TypeOPT, Data: strings.Repeat("A", api.MaxData+1)}},
	}
	for _, n := range noNames() {
		all = append(all,
			example{"A of no name", api.RR{Name: n, Type: api.TypeA, Class: 1, TTL: 1, Data: "AAAA"}},
			example{"OPT of no name", api.RR{Name: n, Type: api.TypeOPT, Class: 1, TTL: 1}})
	}
	return all
}

func TestCheck(t *testing.T) {
	for _, c := range right() {
		if why := record.Check(c.r); why != api.OK {
			t.Errorf("5.1: Check of %s = %d", c.what, why)
		}
	}
	for _, c := range wrong() {
		if why := record.Check(c.r); why != api.ErrForm {
			t.Errorf("5.1: Check of %s (%q) = %d, not ErrForm", c.what, c.r.Name, why)
		}
	}
}

func TestWrite(t *testing.T) {
	for _, c := range []struct {
		what string
		r    api.RR
		want string
	}{
		{"A", api.RR{Name: "\x01a\x02Ex\x03ORG\x00", Type: api.TypeA, Class: 0x1234, TTL: 0x01020304, Data: "\x05\x06\x07\x08"},
			"\x01a\xc0\x04\x00\x01\x12\x34\x01\x02\x03\x04\x00\x04\x05\x06\x07\x08"},
		{"A of another name", api.RR{Name: org, Type: api.TypeA, Class: 1, TTL: api.MaxTTL, Data: "AAAA"},
			"\x03org\x00\x00\x01\x00\x01\x7f\xff\xff\xff\x00\x04AAAA"},
		{"NS that points", api.RR{Name: wwwEx, Type: api.TypeNS, Class: 1, TTL: 60, Data: "\x01n" + wwwEx},
			"\xc0\x00\x00\x02\x00\x01\x00\x00\x00\x3c\x00\x04\x01n\xc0\x00"},
		{"NS that points to its record", api.RR{Name: "\x01n\x00", Type: api.TypeNS, Class: 1, TTL: 60, Data: "\x01n\x00"},
			"\x01n\x00\x00\x02\x00\x01\x00\x00\x00\x3c\x00\x02\xc0\x0c"},
		{"SOA that points", api.RR{Name: wwwEx, Type: api.TypeSOA, Class: 1, TTL: 60, Data: "\x01n\x00\x01h\x01n\x00" + tail},
			"\xc0\x00\x00\x06\x00\x01\x00\x00\x00\x3c\x00\x1b\x01n\x00\x01h\xc0\x18" + tail},
		{"SRV, that does not", api.RR{Name: wwwEx, Type: api.TypeSRV, Class: 1, TTL: 60, Data: "\x00\x01\x00\x02\x00\x03" + wwwEx},
			"\xc0\x00\x00\x21\x00\x01\x00\x00\x00\x3c\x00\x12\x00\x01\x00\x02\x00\x03" + wwwEx},
		{"OPT", api.RR{Name: root, Type: api.TypeOPT, Class: 1232, TTL: 0xff008000, Data: ""},
			"\x00\x00\x29\x04\xd0\xff\x00\x80\x00\x00\x00"},
		{"most data", api.RR{Name: root, Type: 0xfedc, Class: 1, TTL: 0, Data: strings.Repeat("A", api.MaxData)},
			"\x00\xfe\xdc\x00\x01\x00\x00\x00\x00\x10\x00" + strings.Repeat("A", api.MaxData)},
	} {
		w := pack.New(api.MaxBytes)
		w.Name(wwwEx)
		if why := record.Write(w, c.r); why != api.OK {
			t.Errorf("5.2: Write of %s = %d", c.what, why)
		}
		if got, why := w.Out(); got != wwwEx+c.want || why != api.OK {
			t.Errorf("5.2: %s is written as %q, %d, not %q", c.what, got, why, wwwEx+c.want)
		}
	}
}

func TestWriteWrong(t *testing.T) {
	for _, c := range wrong() {
		w := pack.New(api.MaxBytes)
		w.Raw("!")
		if why := record.Write(w, c.r); why != api.ErrForm {
			t.Errorf("5.2: Write of %s = %d, not ErrForm", c.what, why)
		}
		if got, why := w.Out(); got != "!" || why != api.OK {
			t.Errorf("5.2: Write of %s wrote %q, %d", c.what, got, why)
		}
	}
}

func TestWriteWithoutRoom(t *testing.T) {
	r := api.RR{Name: org, Type: api.TypeMX, Class: 1, TTL: 60, Data: "\x00\x05\x01m" + org}
	whole := pack.New(api.MaxBytes)
	record.Write(whole, r)
	size := whole.Len()
	for limit := range size + 2 {
		w := pack.New(limit)
		if why := record.Write(w, r); why != api.OK {
			t.Errorf("5.2: Write with room for %d = %d", limit, why)
		}
		if _, why := w.Out(); (why == api.OK) != (limit >= size) || w.Len() > limit {
			t.Errorf("5.2: %d bytes with room for %d: Out() = %d, Len() = %d", size, limit, why, w.Len())
		}
	}
}

// ahead are bytes to which what is read may point: a name at 2, and a pointer to a part of it at 9.
const ahead = "!!\x01A\x03org\x00\xc0\x04"

func TestRead(t *testing.T) {
	for _, c := range []struct {
		what string
		wire string
		want api.RR
	}{
		{"A", "\x01b\x00\x00\x01\x12\x34\x01\x02\x03\x04\x00\x04\x05\x06\x07\x08",
			api.RR{Name: "\x01b\x00", Type: api.TypeA, Class: 0x1234, TTL: 0x01020304, Data: "\x05\x06\x07\x08"}},
		{"A of a name by pointers", "\x01b\xc0\x09\x00\x01\x00\x01\x00\x00\x00\x3c\x00\x04AAAA",
			api.RR{Name: "\x01b\x03org\x00", Type: api.TypeA, Class: 1, TTL: 60, Data: "AAAA"}},
		{"MX by a pointer to its record", "\x01b\xc0\x02\x00\x0f\x00\x01\x00\x00\x00\x3c\x00\x04\x00\x05\xc0\x0b",
			api.RR{Name: "\x01b\x01A\x03org\x00", Type: api.TypeMX, Class: 1, TTL: 60, Data: "\x00\x05\x01b\x01A\x03org\x00"}},
		{"SRV by a pointer", "\xc0\x02\x00\x21\x00\x01\x00\x00\x00\x3c\x00\x08\x00\x01\x00\x02\x00\x03\xc0\x04",
			api.RR{Name: "\x01A\x03org\x00", Type: api.TypeSRV, Class: 1, TTL: 60, Data: "\x00\x01\x00\x02\x00\x03\x03org\x00"}},
		{"the greatest time", "\x00\x00\x01\x00\x01\x7f\xff\xff\xff\x00\x04AAAA",
			api.RR{Name: root, Type: api.TypeA, Class: 1, TTL: api.MaxTTL, Data: "AAAA"}},
		{"a time above it", "\x00\x00\x01\x00\x01\x80\x00\x00\x00\x00\x04AAAA",
			api.RR{Name: root, Type: api.TypeA, Class: 1, TTL: 0, Data: "AAAA"}},
		{"the last time, of ANY", "\x00\x00\xff\x00\x01\xff\xff\xff\xff\x00\x00",
			api.RR{Name: root, Type: api.TypeANY, Class: 1, TTL: 0, Data: ""}},
		{"OPT of all bits", "\x00\x00\x29\x04\xd0\xff\xff\xff\xff\x00\x05\x00\x0a\x00\x01!",
			api.RR{Name: root, Type: api.TypeOPT, Class: 1232, TTL: 1<<32 - 1, Data: "\x00\x0a\x00\x01!"}},
		{"OPT of the bit above the greatest time", "\x00\x00\x29\x04\xd0\x80\x00\x00\x00\x00\x00",
			api.RR{Name: root, Type: api.TypeOPT, Class: 1232, TTL: 1 << 31, Data: ""}},
		{"what looks like a pointer", "\x00\x00\x63\x00\x01\x00\x00\x00\x00\x00\x02\xc0\x04",
			api.RR{Name: root, Type: 99, Class: 1, TTL: 0, Data: "\xc0\x04"}},
		{"most data", "\x00\x00\x63\x00\x01\x00\x00\x00\x00\x10\x00" + strings.Repeat("x", api.MaxData),
			api.RR{Name: root, Type: 99, Class: 1, TTL: 0, Data: strings.Repeat("x", api.MaxData)}},
	} {
		r := pack.Open(ahead + c.wire + "behind")
		r.Raw(len(ahead))
		if got, why := record.Read(r); got != c.want || why != api.OK {
			t.Errorf("5.2: Read of %s = %#v, %d", c.what, got, why)
		}
		if got := r.Raw(6); got != "behind" || r.Bad() {
			t.Errorf("5.2: behind %s stands %q", c.what, got)
		}
		for size := range len(c.wire) {
			isShort(t, c.what+" that ends too soon", ahead, c.wire[:size])
		}
	}
}

// isShort tells that what is read behind ahead is ErrShort, and that the reader is bad then.
func isShort(t *testing.T, what, ahead, wire string) {
	t.Helper()
	r := pack.Open(ahead + wire)
	r.Raw(len(ahead))
	if got, why := record.Read(r); got != (api.RR{}) || why != api.ErrShort || !r.Bad() {
		t.Errorf("5.2: Read of %s (%q) = %#v, %d, %v, not ErrShort", what, wire, got, why, r.Bad())
	}
}

func TestReadShort(t *testing.T) {
	const rest = "\x00\x01\x00\x01\x00\x00\x00\x3c\x00\x04AAAA"
	for what, wire := range map[string]string{
		"a name that points to itself":   "\xc0\x0b" + rest,
		"a name that points forth":       "\xc0\x0d" + rest + "\x00",
		"a label of 64 bytes":            "\x40" + strings.Repeat("a", 64) + "\x00" + rest,
		"a name that is too long":        "\x01a" + wide() + rest,
		"a name too long by a pointer":   "\x3f" + strings.Repeat("a", 63) + wide()[:len(wide())-1] + "\xc0\x02" + rest,
		"wrong data that end too soon":   "\x00\x00\x01\x00\x01\x00\x00\x00\x3c\x00\x05AAAA",
		"a name in data that is cut off": "\x00\x00\x02\x00\x01\x00\x00\x00\x3c\x00\x05\x03abc",
		"data that are said to be most":  "\x00\x00\x63\x00\x01\x00\x00\x00\x3c\xff\xff" + strings.Repeat("a", api.MaxData),
	} {
		isShort(t, what, ahead, wire)
	}
	r := pack.Open("\x00" + rest)
	r.Raw(-1)
	if got, why := record.Read(r); got != (api.RR{}) || why != api.ErrShort || !r.Bad() {
		t.Errorf("5.2: Read with a bad reader = %#v, %d", got, why)
	}
}

func TestReadOfNoData(t *testing.T) {
	for what, wire := range map[string]string{
		"A of 3 bytes":                    "\x00\x00\x01\x00\x01\x00\x00\x00\x3c\x00\x03AAA",
		"A of 5 bytes":                    "\x00\x00\x01\x00\x01\x00\x00\x00\x3c\x00\x05AAAAA",
		"A without data":                  "\x00\x00\x01\x00\x01\x00\x00\x00\x3c\x00\x00",
		"A without data, of a great time": "\x00\x00\x01\x00\x01\xff\xff\xff\xff\x00\x00",
		"NS that goes on behind":          "\x00\x00\x02\x00\x01\x00\x00\x00\x3c\x00\x02\x01a",
		"NS that points to itself":        "\x00\x00\x02\x00\x01\x00\x00\x00\x3c\x00\x02\xc0\x16",
		"NS, and something behind":        "\x00\x00\x02\x00\x01\x00\x00\x00\x3c\x00\x03\xc0\x04!",
		"TXT that goes on behind":         "\x00\x00\x10\x00\x01\x00\x00\x00\x3c\x00\x02\x02a",
		"too many data":                   "\x00\x00\x63\x00\x01\x00\x00\x00\x3c\x10\x01" + strings.Repeat("a", api.MaxData+1),
	} {
		r := pack.Open(ahead + wire + "\x00ehind")
		r.Raw(len(ahead))
		if got, why := record.Read(r); got != (api.RR{}) || why != api.ErrCode {
			t.Errorf("5.2: Read of %s = %#v, %d, not ErrCode", what, got, why)
		}
		if got := r.Raw(6); got != "\x00ehind" || r.Bad() || r.Left() != 0 {
			t.Errorf("5.2: behind %s stands %q", what, got)
		}
	}
}
