package sets_test

import (
	"math/rand/v2"
	"slices"
	"strings"
	"testing"

	"hardtack/api"
	"hardtack/rdata"
	"hardtack/record"
	"hardtack/sets"
)

func TestASetAlone(t *testing.T) {
	for _, c := range right() {
		l := sets.Records(c.s)
		if got, why := sets.Find(c.s.Name, c.s.Type, l...); !equal(got, c.s) || why != api.OK {
			t.Errorf("13.3: of the records of %s comes %#v, %d", c.what, got, why)
		}
		if c.s.Type == api.TypeOPT {
			continue
		}
		if got := sets.Of(l...); len(got) != 1 || !equal(got[0], c.s) {
			t.Errorf("13.3: of the records of %s come %#v", c.what, got)
		}
	}
}

func anyOf[T any](draw *rand.Rand, l ...T) T { return l[draw.IntN(len(l))] }

// anyRecord is of few owners, with data of which many are one, and now and then not right, or of another class.
func anyRecord(draw *rand.Rand) api.RR {
	r := api.RR{
		Name:  anyOf(draw, www, strings.ToUpper(www), strings.ToLower(www), www[4:], root),
		Type:  anyOf(draw, api.TypeA, api.TypeNS, api.TypeTXT, api.TypeMX, api.TypeOPT, 99),
		Class: 1,
		TTL:   draw.Uint32N(5),
	}
	letter := anyOf(draw, "a", "A", "b", "B", "c", "\xff")
	switch r.Type {
	case api.TypeA:
		r.Data = strings.Repeat(letter, 4)
	case api.TypeNS:
		r.Data = "\x01" + letter + "\x00"
	case api.TypeTXT:
		r.Data = "\x01" + letter
	case api.TypeMX:
		r.Data = "\x00" + letter + "\x01" + letter + "\x00"
	default:
		r.Data = letter
	}
	switch draw.IntN(12) {
	case 0:
		r.Class = uint16(anyOf(draw, 0, 2, 257))
	case 1:
		r.Name = anyOf(draw, "", "www", "\x03ww\x00")
	case 2:
		r.TTL |= 1 << 31
	case 3:
		r.Data += letter
	}
	return r
}

func anyRecords(draw *rand.Rand) []api.RR {
	var l []api.RR
	for range draw.IntN(40) {
		l = append(l, anyRecord(draw))
	}
	return l
}

func counts(r api.RR) bool { return r.Class == 1 && record.Check(r) == api.OK }

func isOf(r api.RR, name string, t api.RType) bool {
	return strings.EqualFold(r.Name, name) && r.Type == t
}

func isOne(t api.RType, a, b string) bool { return rdata.Fold(t, a) == rdata.Fold(t, b) }

// bySteps reckons a set slowly, out of what the chapter says alone: again and again the least of the data that are left.
func bySteps(name string, t api.RType, l []api.RR) (api.Set, bool) {
	s := api.Set{Name: name, Type: t, TTL: 1<<32 - 1}
	var left []string
	for _, r := range l {
		if !counts(r) || !isOf(r, name, t) {
			continue
		}
		s.TTL = min(s.TTL, r.TTL)
		if !slices.ContainsFunc(left, func(d string) bool { return isOne(t, d, r.Data) }) {
			left = append(left, r.Data)
		}
	}
	if left == nil {
		return api.Set{}, false
	}
	for len(left) > 0 && len(s.Data) < api.MaxItems {
		least := 0
		for i := range left {
			if rdata.Fold(t, left[i]) < rdata.Fold(t, left[least]) {
				least = i
			}
		}
		s.Data = append(s.Data, left[least])
		left = slices.Delete(left, least, least+1)
	}
	return s, true
}

func TestSetsOfAnyRecords(t *testing.T) {
	draw := rand.New(rand.NewPCG(13, 2))
	found := 0
	for range 500 {
		l := anyRecords(draw)
		had := slices.Clone(l)
		var want []api.Set
		for i, r := range l {
			s, known := bySteps(r.Name, r.Type, l)
			got, why := sets.Find(r.Name, r.Type, l...)
			if !equal(got, s) || known != (why == api.OK) || !known && why != api.ErrNone {
				t.Fatalf("13.2: Find of %q, %d among %#v = %#v, %d", r.Name, r.Type, l, got, why)
			}
			first := !slices.ContainsFunc(l[:i], func(x api.RR) bool { return counts(x) && isOf(x, r.Name, r.Type) })
			if counts(r) && r.Type != api.TypeOPT && first {
				want = append(want, s)
			}
		}
		got := sets.Of(l...)
		if !slices.EqualFunc(got, want, equal) || !slices.Equal(l, had) {
			t.Fatalf("13.2: Of %#v = %#v", l, got)
		}
		found += len(got)
	}
	if found < 1000 {
		t.Errorf("13.2: only %d sets were found in all", found)
	}
}

// TestEachRecordIsInASet goes over sets that have room for all of their data, as there are few.
func TestEachRecordIsInASet(t *testing.T) {
	draw := rand.New(rand.NewPCG(13, 3))
	for range 500 {
		l := anyRecords(draw)
		all := sets.Of(l...)
		for _, s := range all {
			if why := sets.Check(s); why != api.OK {
				t.Fatalf("13.3: of %#v comes %#v: %d", l, s, why)
			}
		}
		for _, r := range l {
			in := 0
			for _, s := range all {
				one := func(d string) bool { return isOne(r.Type, d, r.Data) }
				if isOf(r, s.Name, s.Type) && slices.ContainsFunc(s.Data, one) && s.TTL <= r.TTL {
					in++
				}
			}
			want := 0
			if counts(r) && r.Type != api.TypeOPT {
				want = 1
			}
			if counts(r) && in != want {
				t.Fatalf("13.3: %#v is in %d of the sets of %#v", r, in, l)
			}
		}
	}
}

func TestSaysWhateverTheOrderOfRecords(t *testing.T) {
	draw := rand.New(rand.NewPCG(13, 1))
	for range 300 {
		l := anyRecords(draw)
		other := slices.Clone(l)
		draw.Shuffle(len(other), func(i, j int) { other[i], other[j] = other[j], other[i] })
		all, again := sets.Of(l...), sets.Of(other...)
		for _, a := range all {
			many := 0
			for _, b := range again {
				if sets.Says(a, b) != sets.Says(b, a) || sets.Says(a, b) && a.TTL != b.TTL {
					t.Fatalf("13.1: %#v and %#v", a, b)
				}
				if sets.Says(a, b) {
					many++
				}
			}
			if many != 1 || len(all) != len(again) {
				t.Fatalf("13.1: of %#v, in another order, %d sets say what %#v says", l, many, a)
			}
		}
	}
}
