package record_test

import (
	"math/rand/v2"
	"slices"
	"strings"
	"testing"

	"hardtack/api"
	"hardtack/record"
)

// ordered are records in their order, each of which stands ahead of the next for another cause, and mostly would not for a later one.
func ordered() []api.RR {
	return []api.RR{
		{Name: root, Type: 300, Class: 9, TTL: 9, Data: "z"},
		{Name: "\x01a\x00", Type: 300, Class: 9, TTL: 9, Data: "z"},
		{Name: "\x03com\x00", Type: 300, Class: 9, TTL: 9, Data: "z"},
		{Name: "\x01z\x03com\x00", Type: 300, Class: 9, TTL: 9, Data: "z"},
		{Name: "\x01a\x03org\x00", Type: api.TypeA, Class: 300, TTL: 9, Data: "zzzz"},
		{Name: "\x01b\x03ORG\x00", Type: api.TypeA, Class: 1, TTL: 9, Data: "\x80zzz"},
		{Name: "\x01b\x03ORG\x00", Type: api.TypeA, Class: 2, TTL: 9, Data: "zzzz"},
		{Name: "\x01b\x03org\x00", Type: api.TypeA, Class: 255, TTL: 9, Data: "zzzz"},
		{Name: "\x01B\x03ORG\x00", Type: api.TypeA, Class: 256, TTL: 9, Data: "zzzz"},
		{Name: "\x01b\x03ORG\x00", Type: api.TypeNS, Class: 0, TTL: 9, Data: "\x01C\x00"},
		{Name: "\x01b\x03ORG\x00", Type: api.TypeNS, Class: 1, TTL: 9, Data: "\x01a\x00"},
		{Name: "\x01B\x03ORG\x00", Type: api.TypeNS, Class: 1, TTL: 9, Data: "\x01b\x00"},
		{Name: "\x01B\x03org\x00", Type: api.TypeNS, Class: 1, TTL: 9, Data: "\x01B\x00"},
		{Name: "\x01b\x03ORG\x00", Type: api.TypeNS, Class: 1, TTL: 9, Data: "\x01B\x00"},
		{Name: "\x01b\x03ORG\x00", Type: api.TypeNS, Class: 1, TTL: 10, Data: "\x01B\x00"},
		{Name: "\x01b\x03ORG\x00", Type: api.TypeNS, Class: 1, TTL: 256, Data: "\x01B\x00"},
		{Name: "\x01b\x03ORG\x00", Type: api.TypeNS, Class: 1, TTL: api.MaxTTL, Data: "\x01B\x00"},
		{Name: "\x01b\x03ORG\x00", Type: api.TypeNS, Class: 1, TTL: 8, Data: "\x01b\x00"},
		{Name: "\x01B\x03ORG\x00", Type: api.TypeNS, Class: 1, TTL: 9, Data: "\x01C\x00"},
		{Name: "\x01B\x03ORG\x00", Type: api.TypeNS, Class: 1, TTL: 9, Data: "\x02A\x00\x00"},
		{Name: "\x01b\x03org\x00", Type: api.TypeTXT, Class: 1, TTL: 9, Data: "\x01B"},
		{Name: "\x01B\x03org\x00", Type: api.TypeTXT, Class: 1, TTL: 9, Data: "\x01a"},
		{Name: "\x01b\x03org\x00", Type: api.TypeTXT, Class: 1, TTL: 9, Data: "\x01a\x00"},
		{Name: "\x01b\x03org\x00", Type: api.TypeOPT, Class: 1, TTL: 1<<31 - 1, Data: "a"},
		{Name: "\x01b\x03org\x00", Type: api.TypeOPT, Class: 1, TTL: 1<<32 - 1, Data: "a"},
		{Name: "\x01b\x03org\x00", Type: api.TypeANY, Class: 1, TTL: 0, Data: ""},
		{Name: "\x01b\x03org\x00", Type: 256, Class: 1, TTL: 0, Data: ""},
		{Name: "\x01b\x03org\x00", Type: 65535, Class: 0, TTL: 0, Data: ""},
		{Name: "\x01a\x01b\x03org\x00", Type: 0, Class: 0, TTL: 0, Data: ""},
		{Name: "\x01c\x03org\x00", Type: 0, Class: 0, TTL: 0, Data: ""},
		{Name: "\x01a\x04orga\x00", Type: 0, Class: 0, TTL: 0, Data: ""},
	}
}

func TestLess(t *testing.T) {
	all := ordered()
	for i, a := range all {
		for j, b := range all {
			if got := record.Less(a, b); got != (i < j) {
				t.Errorf("5.1: Less(%#v, %#v) = %v", a, b, got)
			}
		}
	}
	for _, c := range wrong() {
		for _, a := range []api.RR{all[0], all[len(all)-1], c.r} {
			if record.Less(a, c.r) || record.Less(c.r, a) {
				t.Errorf("5.1: Less, but %s is not right", c.what)
			}
		}
	}
}

func TestSort(t *testing.T) {
	draw := rand.New(rand.NewPCG(5, 1))
	want := ordered()
	for range 200 {
		all := slices.Clone(want)
		for _, c := range wrong() {
			all = append(all, c.r)
		}
		draw.Shuffle(len(all), func(i, j int) { all[i], all[j] = all[j], all[i] })
		had := slices.Clone(all)
		got := record.Sort(all...)
		if !slices.Equal(got, want) {
			t.Fatalf("5.1: of %d records Sort answers %d in another order: %#v", len(all), len(got), got)
		}
		got[0] = api.RR{Name: "changed"}
		if !slices.Equal(all, had) {
			t.Fatal("5.1: Sort changed its records, or shares them")
		}
	}
}

func TestSortOfFew(t *testing.T) {
	a, b := ordered()[5], ordered()[6]
	again := ordered()[5]
	again.TTL++
	for _, c := range []struct{ l, want []api.RR }{
		{nil, nil},
		{[]api.RR{{}}, nil},
		{[]api.RR{{}, {Name: root, TTL: 1 << 31}}, nil},
		{[]api.RR{a}, []api.RR{a}},
		{[]api.RR{a, a}, []api.RR{a, a}},
		{[]api.RR{b, a, b, {}, a}, []api.RR{a, a, b, b}},
		{[]api.RR{again, b, a}, []api.RR{a, again, b}},
	} {
		if got := record.Sort(c.l...); !slices.Equal(got, c.want) {
			t.Errorf("5.1: Sort(%#v) = %#v", c.l, got)
		}
	}
	sorted := []api.RR{a, b}
	record.Sort(sorted...)[0] = b
	if sorted[0] != a {
		t.Error("5.1: Sort shares its records")
	}
}

func TestSame(t *testing.T) {
	ns := api.RR{Name: "\x01a\x03org\x00", Type: api.TypeNS, Class: 1, TTL: 60, Data: "\x01b\x00"}
	text := api.RR{Name: org, Type: api.TypeTXT, Class: 1, TTL: 60, Data: "\x01b"}
	opt := api.RR{Name: root, Type: api.TypeOPT, Class: 1232, TTL: 1 << 31, Data: ""}
	for _, c := range []struct {
		what string
		a    api.RR
		turn func(*api.RR)
		want bool
	}{
		{"itself", ns, func(*api.RR) {}, true},
		{"another time", ns, func(r *api.RR) { r.TTL = api.MaxTTL }, true},
		{"great letters in the name", ns, func(r *api.RR) { r.Name = strings.ToUpper(r.Name) }, true},
		{"great letters in names of data", ns, func(r *api.RR) { r.Data = strings.ToUpper(r.Data) }, true},
		{"another time of OPT", opt, func(r *api.RR) { r.TTL = 0 }, true},
		{"another name", ns, func(r *api.RR) { r.Name = "\x01b\x03org\x00" }, false},
		{"a name within", ns, func(r *api.RR) { r.Name = org }, false},
		{"another class", ns, func(r *api.RR) { r.Class = 2 }, false},
		{"another type", ns, func(r *api.RR) { r.Type = api.TypePTR }, false},
		{"other data", ns, func(r *api.RR) { r.Data = "\x01c\x00" }, false},
		{"great letters in texts", text, func(r *api.RR) { r.Data = "\x01B" }, false},
		{"other texts", text, func(r *api.RR) { r.Data = "\x01b\x00" }, false},
		{"a class of OPT", opt, func(r *api.RR) { r.Class++ }, false},
		{"a time that is too great", ns, func(r *api.RR) { r.TTL = 1 << 31 }, false},
		{"wrong data", ns, func(r *api.RR) { r.Data = "\x01b" }, false},
		{"no name", ns, func(r *api.RR) { r.Name = "" }, false},
	} {
		b := c.a
		c.turn(&b)
		if record.Same(c.a, b) != c.want || record.Same(b, c.a) != c.want {
			t.Errorf("5.1: Same of a record and of one with %s is not %v", c.what, c.want)
		}
	}
	for _, c := range right() {
		if !record.Same(c.r, c.r) {
			t.Errorf("5.1: %s is not the same", c.what)
		}
	}
	for _, c := range wrong() {
		if record.Same(c.r, c.r) {
			t.Errorf("5.1: Same, but %s is not right", c.what)
		}
	}
}

func TestOneStandsAheadUnlessBothAreEqual(t *testing.T) {
	var all []api.RR
	for _, c := range right() {
		all = append(all, c.r)
	}
	all = append(all, ordered()...)
	for _, a := range all {
		for _, b := range all {
			if ahead, behind := record.Less(a, b), record.Less(b, a); ahead && behind || (ahead || behind) != (a != b) {
				t.Errorf("5.1: Less of %#v and %#v is %v, the other way round %v", a, b, ahead, behind)
			}
		}
	}
}
