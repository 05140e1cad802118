package sets_test

import (
	"math/rand/v2"
	"slices"
	"strings"
	"testing"

	"hardtack/api"
	"hardtack/sets"
)

// ns is a record of a host's name.
func ns(name string, ttl uint32, host string) api.RR {
	return api.RR{Name: name, Type: api.TypeNS, Class: 1, TTL: ttl, Data: host}
}

// strangers are records of www that are in no set of its hosts, each for another cause.
func strangers() []api.RR {
	return []api.RR{
		{},
		{Name: www, Type: api.TypeNS, Class: 0, TTL: 1, Data: "\x01s\x00"},
		{Name: www, Type: api.TypeNS, Class: 3, TTL: 1, Data: "\x01s\x00"},
		{Name: www, Type: api.TypeNS, Class: 257, TTL: 1, Data: "\x01s\x00"},
		{Name: www, Type: api.TypeNS, Class: 1, TTL: api.MaxTTL + 1, Data: "\x01s\x00"},
		{Name: www, Type: api.TypeNS, Class: 1, TTL: 1, Data: "\x01s"},
		{Name: www, Type: api.TypeNS, Class: 1, TTL: 1, Data: ""},
		{Name: www[4:], Type: api.TypeNS, Class: 1, TTL: 1, Data: "\x01s\x00"},
		{Name: "\x01x" + www, Type: api.TypeNS, Class: 1, TTL: 1, Data: "\x01s\x00"},
		{Name: root, Type: api.TypeNS, Class: 1, TTL: 1, Data: "\x01s\x00"},
		{Name: "", Type: api.TypeNS, Class: 1, TTL: 1, Data: "\x01s\x00"},
		{Name: www[:len(www)-1], Type: api.TypeNS, Class: 1, TTL: 1, Data: "\x01s\x00"},
		{Name: www, Type: api.TypeA, Class: 1, TTL: 1, Data: "abcd"},
		{Name: www, Type: api.TypePTR, Class: 1, TTL: 1, Data: "\x01s\x00"},
		{Name: www, Type: api.TypeOPT, Class: 1, TTL: 1, Data: "\x01s\x00"},
	}
}

func TestFind(t *testing.T) {
	great := strings.ToUpper(www)
	for _, c := range []struct {
		what string
		name string
		l    []api.RR
		ttl  uint32
		data []string
	}{
		{"one record", www, []api.RR{ns(www, 9, "\x01a\x00")}, 9, []string{"\x01a\x00"}},
		{"another size of letters in names", www, []api.RR{ns(great, 9, "\x01a\x00"), ns(www, 9, "\x01b\x00")}, 9, []string{"\x01a\x00", "\x01b\x00"}},
		{"another size of letters in the name", great, []api.RR{ns(www, 9, "\x01a\x00")}, 9, []string{"\x01a\x00"}},
		{"another order", www, []api.RR{ns(www, 9, "\x01c\x00"), ns(www, 9, "\x01A\x00"), ns(www, 9, "\x01B\x00")}, 9, []string{"\x01A\x00", "\x01B\x00", "\x01c\x00"}},
		{"the first that are one", www, []api.RR{ns(www, 9, "\x01B\x00"), ns(www, 9, "\x01a\x00"), ns(www, 9, "\x01b\x00"), ns(www, 9, "\x01A\x00")}, 9, []string{"\x01a\x00", "\x01B\x00"}},
		{"the same twice", www, []api.RR{ns(www, 9, "\x01a\x00"), ns(www, 9, "\x01a\x00")}, 9, []string{"\x01a\x00"}},
		{"the least TTL first", www, []api.RR{ns(www, 7, "\x01a\x00"), ns(www, 8, "\x01b\x00")}, 7, []string{"\x01a\x00", "\x01b\x00"}},
		{"the least TTL last", www, []api.RR{ns(www, 9, "\x01a\x00"), ns(www, 7, "\x01b\x00")}, 7, []string{"\x01a\x00", "\x01b\x00"}},
		{"the least TTL of whose data are one with others", www, []api.RR{ns(www, 9, "\x01a\x00"), ns(www, 7, "\x01A\x00")}, 7, []string{"\x01a\x00"}},
		{"a TTL of 0", www, []api.RR{ns(www, 9, "\x01a\x00"), ns(www, 0, "\x01b\x00")}, 0, []string{"\x01a\x00", "\x01b\x00"}},
		{"the greatest TTL", www, []api.RR{ns(www, api.MaxTTL, "\x01a\x00")}, api.MaxTTL, []string{"\x01a\x00"}},
	} {
		want := api.Set{Name: c.name, Type: api.TypeNS, TTL: c.ttl, Data: c.data}
		for _, l := range [][]api.RR{c.l, slices.Concat(strangers(), c.l), slices.Concat(c.l, strangers())} {
			had := slices.Clone(l)
			got, why := sets.Find(c.name, api.TypeNS, l...)
			if !equal(got, want) || why != api.OK {
				t.Errorf("13.2: %s: Find among %d = %#v, %d", c.what, len(l), got, why)
			}
			if !slices.Equal(l, had) {
				t.Fatalf("13.2: %s: Find changed the records", c.what)
			}
		}
	}
}

func TestFindNone(t *testing.T) {
	for _, l := range [][]api.RR{nil, {}, strangers()} {
		if got, why := sets.Find(www, api.TypeNS, l...); !equal(got, api.Set{}) || why != api.ErrNone {
			t.Errorf("13.2: Find among %d strangers = %#v, %d", len(l), got, why)
		}
	}
	for _, name := range []string{"", "www", www[:len(www)-1], www + "\x00", "\x01a" + widest()} {
		l := []api.RR{ns(name, 9, "\x01a\x00"), ns(www, 9, "\x01a\x00")}
		if got, why := sets.Find(name, api.TypeNS, l...); !equal(got, api.Set{}) || why != api.ErrNone {
			t.Errorf("13.2: Find of %q, which is no name, = %#v, %d", name, got, why)
		}
	}
}

// TestFindOfManyData has data fall, so that the first in order stand last; and the least TTL goes with some that there is no room for.
func TestFindOfManyData(t *testing.T) {
	for _, many := range []int{1, api.MaxItems - 1, api.MaxItems, api.MaxItems + 1, 1000} {
		var l []api.RR
		for i, d := range rising(many) {
			l = append(l, api.RR{Name: www, Type: api.TypeA, Class: 1, TTL: uint32(2000 - i), Data: d})
		}
		slices.Reverse(l)
		l = append(l, l...)
		want := api.Set{Name: www, Type: api.TypeA, TTL: uint32(2000 - many + 1), Data: rising(min(many, api.MaxItems))}
		if got, why := sets.Find(www, api.TypeA, l...); !equal(got, want) || why != api.OK {
			t.Errorf("13.2: Find among %d = %#v, %d", len(l), got, why)
		}
		if got := sets.Of(l...); len(got) != 1 || !equal(got[0], want) {
			t.Errorf("13.2: Of %d records = %#v", len(l), got)
		}
	}
}

// TestFindTheFirstOfMany has more data than are ordered without haste, each in three ways of writing.
func TestFindTheFirstOfMany(t *testing.T) {
	draw := rand.New(rand.NewPCG(13, 4))
	var l []api.RR
	for c := 'a'; c <= 'z'; c++ {
		small, great := string(c), strings.ToUpper(string(c))
		for _, host := range []string{small + small, great + small, small + great} {
			l = append(l, ns(www, 9, "\x02"+host+"\x00"))
		}
	}
	for range 50 {
		draw.Shuffle(len(l), func(i, j int) { l[i], l[j] = l[j], l[i] })
		want := api.Set{Name: www, Type: api.TypeNS, TTL: 9}
		for c := 'a'; c <= 'z'; c++ {
			at := slices.IndexFunc(l, func(r api.RR) bool { return strings.EqualFold(r.Data, "\x02"+string([]rune{c, c})+"\x00") })
			want.Data = append(want.Data, l[at].Data)
		}
		if got, why := sets.Find(www, api.TypeNS, l...); !equal(got, want) || why != api.OK {
			t.Fatalf("13.2: Find among %d = %#v, %d", len(l), got, why)
		}
	}
}

func TestFindOfOtherTypes(t *testing.T) {
	for _, kind := range []api.RType{0, api.TypeOPT, api.TypeANY, 99, 65535} {
		l := []api.RR{{Name: root, Type: kind, Class: 1, TTL: 9, Data: "B"}, {Name: root, Type: kind, Class: 1, TTL: 9, Data: "a"}, {Name: root, Type: kind, Class: 1, TTL: 9, Data: ""}}
		want := api.Set{Name: root, Type: kind, TTL: 9, Data: []string{"", "B", "a"}}
		if got, why := sets.Find(root, kind, l...); !equal(got, want) || why != api.OK {
			t.Errorf("13.2: Find of type %d = %#v, %d", kind, got, why)
		}
	}
	l := []api.RR{ns(www, 9, "\x01a\x00"), {Name: www, Type: api.TypeA, Class: 1, TTL: 9, Data: "abcd"}}
	if got, why := sets.Find(www, api.TypeANY, l...); why != api.ErrNone {
		t.Errorf("13.2: Find of type ANY, of which there is none, = %#v, %d", got, why)
	}
}

func TestOf(t *testing.T) {
	great := strings.ToUpper(www)
	a := api.RR{Name: great, Type: api.TypeA, Class: 1, TTL: 5, Data: "zzzz"}
	text := api.RR{Name: www, Type: api.TypeTXT, Class: 1, TTL: 9, Data: "\x01T"}
	none := api.RR{Name: www, Type: 0, Class: 1, TTL: 9, Data: "n"}
	any := api.RR{Name: www, Type: api.TypeANY, Class: 1, TTL: 9, Data: "y"}
	opt := api.RR{Name: root, Type: api.TypeOPT, Class: 1, TTL: 9, Data: ""}
	other := a
	other.Name, other.Data = www, "yyyy"
	got := sets.Of(opt, text, ns(great, 9, "\x01B\x00"), a, none, ns(root, 9, "\x01r\x00"), any, ns(www, 7, "\x01a\x00"), ns(www[4:], 9, "\x01p\x00"), other, ns(www, 8, "\x01b\x00"), opt)
	want := []api.Set{
		{Name: www, Type: api.TypeTXT, TTL: 9, Data: []string{"\x01T"}},
		{Name: great, Type: api.TypeNS, TTL: 7, Data: []string{"\x01a\x00", "\x01B\x00"}},
		{Name: great, Type: api.TypeA, TTL: 5, Data: []string{"yyyy", "zzzz"}},
		{Name: www, Type: 0, TTL: 9, Data: []string{"n"}},
		{Name: root, Type: api.TypeNS, TTL: 9, Data: []string{"\x01r\x00"}},
		{Name: www, Type: api.TypeANY, TTL: 9, Data: []string{"y"}},
		{Name: www[4:], Type: api.TypeNS, TTL: 9, Data: []string{"\x01p\x00"}},
	}
	if !slices.EqualFunc(got, want, equal) {
		t.Errorf("13.2: Of = %#v", got)
	}
}

func TestOfLeavesOutWhatIsNotRight(t *testing.T) {
	if got := sets.Of(); len(got) != 0 {
		t.Errorf("13.2: Of no records = %#v", got)
	}
	first := ns(strings.ToUpper(www), api.MaxTTL+1, "\x01a\x00")
	class := ns(strings.ToUpper(www), 9, "\x01a\x00")
	class.Class = 2
	opt := api.RR{Name: www, Type: api.TypeOPT, Class: 1, TTL: 1, Data: "abcd"}
	got := sets.Of(first, class, opt, ns(www, 9, "\x01a\x00"), first, class)
	if want := []api.Set{{Name: www, Type: api.TypeNS, TTL: 9, Data: []string{"\x01a\x00"}}}; !slices.EqualFunc(got, want, equal) {
		t.Errorf("13.2: Of records, one of which is right, = %#v", got)
	}
	if got := sets.Of(first, class, opt); len(got) != 0 {
		t.Errorf("13.2: Of records, none of which is right, = %#v", got)
	}
}

func TestNoTwoShareAnything(t *testing.T) {
	l := []api.RR{ns(www, 9, "\x01a\x00"), ns(root, 9, "\x01a\x00"), ns(www, 9, "\x01b\x00")}
	had := slices.Clone(l)
	got, again := sets.Of(l...), sets.Of(l...)
	got[0].Data[0] = "changed"
	_ = append(got[0].Data[:1], "changed")
	if !slices.Equal(l, had) || got[1].Data[0] != "\x01a\x00" || !slices.Equal(again[0].Data, []string{"\x01a\x00", "\x01b\x00"}) {
		t.Error("13.2: what Of answers is shared")
	}
}
