package sets_test

import (
	"slices"
	"strings"
	"testing"

	"hardtack/api"
	"hardtack/sets"
)

const (
	root = "\x00"
	www  = "\x03www\x02Ex\x03org\x00"
	soa  = "\x01A\x00\x01b\x00\x00\x00\x00\x01\x00\x00\x00\x02\x00\x00\x00\x03\x00\x00\x00\x04\x00\x00\x00\x05"
)

// equal holds sets against one another by hand, so that the tests need not trust Same.
func equal(a, b api.Set) bool {
	return a.Name == b.Name && a.Type == b.Type && a.TTL == b.TTL && slices.Equal(a.Data, b.Data)
}

// rising has so many data of 4 bytes in their order.
func rising(many int) []string {
	var l []string
	for i := range many {
		l = append(l, string([]byte{10, 0, byte(i >> 8), byte(i)}))
	}
	return l
}

// widest is a name of MaxName bytes.
func widest() string {
	return strings.Repeat("\x3f"+strings.Repeat("a", 63), 3) + "\x3d" + strings.Repeat("a", 61) + "\x00"
}

type sample struct {
	what string
	s    api.Set
}

func right() []sample {
	return []sample{
		{"an address", api.Set{Name: www, Type: api.TypeA, TTL: 60, Data: []string{"abcd"}}},
		{"a set of the root", api.Set{Name: root, Type: api.TypeNS, TTL: 60, Data: []string{"\x01a\x00", "\x01b\x00"}}},
		{"a set of the widest name", api.Set{Name: widest(), Type: api.TypeCNAME, TTL: 60, Data: []string{widest()}}},
		{"a TTL of 0", api.Set{Name: www, Type: api.TypeA, TTL: 0, Data: []string{"abcd"}}},
		{"the greatest TTL", api.Set{Name: www, Type: api.TypeA, TTL: api.MaxTTL, Data: []string{"abcd"}}},
		{"as many data as may be", api.Set{Name: www, Type: api.TypeA, TTL: 60, Data: rising(api.MaxItems)}},
		{"bytes above 7f", api.Set{Name: www, Type: api.TypeA, TTL: 60, Data: []string{"\x7f\xff\xff\xff", "\x80\x00\x00\x00", "\xff\xff\xff\xff"}}},
		{"great letters, that stand ahead of small ones", api.Set{Name: www, Type: api.TypeNS, TTL: 60, Data: []string{"\x01a\x00", "\x01B\x00", "\x01c\x00", "\x01D\x00"}}},
		{"great letters in texts, which are not folded", api.Set{Name: www, Type: api.TypeTXT, TTL: 60, Data: []string{"\x01A", "\x01B", "\x01a"}}},
		{"names and numbers", api.Set{Name: www, Type: api.TypeMX, TTL: 60, Data: []string{"\x00\x01\x01b\x00", "\x00\x02\x01A\x00"}}},
		{"a beginning, and more", api.Set{Name: www, Type: 99, TTL: 60, Data: []string{"", "a", "aa", "b"}}},
		{"data without bytes", api.Set{Name: www, Type: 99, TTL: 60, Data: []string{""}}},
		{"the longest data", api.Set{Name: www, Type: 99, TTL: 60, Data: []string{strings.Repeat("a", api.MaxData)}}},
		{"SOA", api.Set{Name: www, Type: api.TypeSOA, TTL: 60, Data: []string{soa}}},
		{"the type 0", api.Set{Name: www, Type: 0, TTL: 60, Data: []string{"a"}}},
		{"OPT", api.Set{Name: root, Type: api.TypeOPT, TTL: api.MaxTTL, Data: []string{"a"}}},
		{"the last type", api.Set{Name: root, Type: 65535, TTL: 60, Data: []string{"a"}}},
	}
}

func wrong() []sample {
	return []sample{
		{"nothing", api.Set{}},
		{"no data", api.Set{Name: www, Type: api.TypeA, TTL: 60}},
		{"a list without data", api.Set{Name: www, Type: api.TypeA, TTL: 60, Data: []string{}}},
		{"one too many data", api.Set{Name: www, Type: api.TypeA, TTL: 60, Data: rising(api.MaxItems + 1)}},
		{"far too many data", api.Set{Name: www, Type: api.TypeA, TTL: 60, Data: rising(1 << 12)}},
		{"no name", api.Set{Name: "", Type: api.TypeA, TTL: 60, Data: []string{"abcd"}}},
		{"a text as its name", api.Set{Name: "www.ex.org.", Type: api.TypeA, TTL: 60, Data: []string{"abcd"}}},
		{"too long a name", api.Set{Name: "\x01a" + widest(), Type: api.TypeA, TTL: 60, Data: []string{"abcd"}}},
		{"a TTL that is too great", api.Set{Name: www, Type: api.TypeA, TTL: api.MaxTTL + 1, Data: []string{"abcd"}}},
		{"the greatest number as its TTL", api.Set{Name: www, Type: api.TypeA, TTL: 1<<32 - 1, Data: []string{"abcd"}}},
		{"a TTL that is too great, of OPT", api.Set{Name: root, Type: api.TypeOPT, TTL: api.MaxTTL + 1, Data: []string{"a"}}},
		{"data of another type", api.Set{Name: www, Type: api.TypeAAAA, TTL: 60, Data: []string{"abcd"}}},
		{"wrong data first", api.Set{Name: www, Type: api.TypeA, TTL: 60, Data: []string{"abc", "abcd"}}},
		{"wrong data last", api.Set{Name: www, Type: api.TypeA, TTL: 60, Data: []string{"abcd", "abcde"}}},
		{"too long data", api.Set{Name: www, Type: 99, TTL: 60, Data: []string{strings.Repeat("a", api.MaxData+1)}}},
		{"data twice", api.Set{Name: www, Type: api.TypeA, TTL: 60, Data: []string{"abcd", "abcd"}}},
		{"data without bytes twice", api.Set{Name: www, Type: 99, TTL: 60, Data: []string{"", ""}}},
		{"data that fall", api.Set{Name: www, Type: api.TypeA, TTL: 60, Data: []string{"abce", "abcd"}}},
		{"data that fall at last", api.Set{Name: www, Type: api.TypeA, TTL: 60, Data: []string{"abcd", "abcf", "abce"}}},
		{"data that are one when folded", api.Set{Name: www, Type: api.TypeNS, TTL: 60, Data: []string{"\x01A\x00", "\x01a\x00"}}},
		{"data that are one when folded, the other way", api.Set{Name: www, Type: api.TypeNS, TTL: 60, Data: []string{"\x01a\x00", "\x01A\x00"}}},
		{"data that rise as they are alone", api.Set{Name: www, Type: api.TypeNS, TTL: 60, Data: []string{"\x01B\x00", "\x01a\x00"}}},
		{"texts in the order that they had if folded", api.Set{Name: www, Type: api.TypeTXT, TTL: 60, Data: []string{"\x01a", "\x01B"}}},
		{"more ahead of the beginning", api.Set{Name: www, Type: 99, TTL: 60, Data: []string{"a", ""}}},
	}
}

func TestCheck(t *testing.T) {
	for _, c := range right() {
		if why := sets.Check(c.s); why != api.OK {
			t.Errorf("13.1: Check of %s = %d", c.what, why)
		}
	}
	for _, c := range wrong() {
		if why := sets.Check(c.s); why != api.ErrForm {
			t.Errorf("13.1: Check of %s = %d, not ErrForm", c.what, why)
		}
	}
}

func TestRecords(t *testing.T) {
	for _, c := range right() {
		got := sets.Records(c.s)
		if len(got) != len(c.s.Data) {
			t.Fatalf("13.1: Records of %s are %d", c.what, len(got))
		}
		for i, r := range got {
			if want := (api.RR{Name: c.s.Name, Type: c.s.Type, Class: 1, TTL: c.s.TTL, Data: c.s.Data[i]}); r != want {
				t.Errorf("13.1: of %s the record %d is %#v", c.what, i, r)
			}
		}
	}
	for _, c := range wrong() {
		if got := sets.Records(c.s); len(got) != 0 {
			t.Errorf("13.1: Records of %s are %d, but it is not right", c.what, len(got))
		}
	}
}

// turns change a set by one thing alone, so that it says another thing, or the same.
func turns() []struct {
	what string
	turn func(*api.Set)
	says bool
} {
	return []struct {
		what string
		turn func(*api.Set)
		says bool
	}{
		{"another TTL", func(s *api.Set) { s.TTL++ }, true},
		{"great letters in its name", func(s *api.Set) { s.Name = strings.ToUpper(s.Name) }, true},
		{"great letters in its data", func(s *api.Set) { s.Data = []string{s.Data[0], strings.ToUpper(s.Data[1])} }, true},
		{"another name", func(s *api.Set) { s.Name = "\x03wwx\x02Ex\x03org\x00" }, false},
		{"its name's parent", func(s *api.Set) { s.Name = s.Name[4:] }, false},
		{"another type", func(s *api.Set) { s.Type = api.TypePTR }, false},
		{"less data", func(s *api.Set) { s.Data = s.Data[:1] }, false},
		{"only the last data", func(s *api.Set) { s.Data = s.Data[1:] }, false},
		{"more data", func(s *api.Set) { s.Data = append(slices.Clone(s.Data), "\x01c\x00") }, false},
		{"other data", func(s *api.Set) { s.Data = []string{s.Data[0], "\x01c\x00"} }, false},
		{"a TTL that is too great", func(s *api.Set) { s.TTL = api.MaxTTL + 1 }, false},
		{"data in another order", func(s *api.Set) { s.Data = []string{s.Data[1], s.Data[0]} }, false},
		{"no data", func(s *api.Set) { s.Data = nil }, false},
		{"no name", func(s *api.Set) { s.Name = "" }, false},
	}
}

func hosts() api.Set {
	return api.Set{Name: www, Type: api.TypeNS, TTL: 60, Data: []string{"\x01a\x00", "\x01b\x00"}}
}

func TestSame(t *testing.T) {
	for _, c := range slices.Concat(right(), wrong()) {
		again := c.s
		again.Data = slices.Clone(c.s.Data)
		if !sets.Same(c.s, again) {
			t.Errorf("13.1: %s is not the same as itself", c.what)
		}
	}
	for _, c := range turns() {
		s := hosts()
		c.turn(&s)
		if sets.Same(s, hosts()) || sets.Same(hosts(), s) {
			t.Errorf("13.1: Same, but of one with %s", c.what)
		}
	}
}

func TestSays(t *testing.T) {
	for _, c := range right() {
		if !sets.Says(c.s, c.s) {
			t.Errorf("13.1: %s does not say what it says", c.what)
		}
	}
	for _, c := range wrong() {
		if sets.Says(c.s, c.s) {
			t.Errorf("13.1: Says, but %s is not right", c.what)
		}
	}
	for _, c := range turns() {
		s := hosts()
		c.turn(&s)
		if sets.Says(s, hosts()) != c.says || sets.Says(hosts(), s) != c.says {
			t.Errorf("13.1: Says of a set and one with %s is not %v", c.what, c.says)
		}
	}
	small, great := api.Set{Name: www, Type: api.TypeTXT, Data: []string{"\x01a"}}, api.Set{Name: www, Type: api.TypeTXT, Data: []string{"\x01A"}}
	if sets.Says(small, great) {
		t.Error("13.1: texts with great letters say the same as with small ones")
	}
}

func TestCap(t *testing.T) {
	for _, c := range []struct{ had, ttl, want uint32 }{
		{60, 0, 0},
		{60, 59, 59},
		{60, 60, 60},
		{60, 61, 60},
		{60, 1<<32 - 1, 60},
		{0, 0, 0},
		{0, 1, 0},
		{api.MaxTTL, api.MaxTTL - 1, api.MaxTTL - 1},
		{1<<32 - 1, api.MaxTTL, api.MaxTTL},
		{1<<32 - 1, 1<<32 - 1, 1<<32 - 1},
	} {
		for _, s := range slices.Concat(right(), wrong()) {
			s.s.TTL = c.had
			want := s.s
			want.TTL = c.want
			if got := sets.Cap(s.s, c.ttl); !equal(got, want) {
				t.Errorf("13.1: Cap of %s with the TTL %d to %d = %#v", s.what, c.had, c.ttl, got)
			}
		}
	}
}

func TestCapIsOnesOwn(t *testing.T) {
	s := hosts()
	for _, ttl := range []uint32{1, 100} {
		sets.Cap(s, ttl).Data[0] = "changed"
		if !equal(s, hosts()) {
			t.Fatal("13.1: Cap changes its set, or shares its data")
		}
	}
	s.Data = s.Data[:1:2]
	_ = append(sets.Cap(s, 1).Data, "changed")
	if s.Data[:2][1] != "\x01b\x00" {
		t.Error("13.1: Cap shares what stands behind the data")
	}
}
