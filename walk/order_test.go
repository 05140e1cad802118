package walk_test

import (
	"slices"
	"strings"
	"testing"

	"hardtack/api"
	"hardtack/label"
	"hardtack/walk"
)

// ordered are names in order, no two of them one.
func ordered() []string {
	return []string{
		root,
		"\x01\x00\x00",
		"\x01\x00\x01\x00\x00",
		"\x02\x00\x00\x00",
		"\x01\x01\x00",
		"\x01@\x00",
		"\x01[\x00",
		"\x01_\x00",
		"\x01`\x00",
		"\x01A\x00",
		"\x01\x00\x01a\x00",
		"\x01a\x01a\x00",
		"\x02aa\x01a\x00",
		"\x01B\x01a\x00",
		"\x01x\x01b\x01A\x00",
		"\x01c\x01A\x00",
		"\x02a\x00\x00",
		"\x02aa\x00",
		"\x02AB\x00",
		"\x01b\x00",
		"\x07example\x00",
		"\x01a\x07example\x00",
		"\x08yljkjljk\x01a\x07example\x00",
		"\x01Z\x01a\x07example\x00",
		"\x04zABC\x01a\x07EXAMPLE\x00",
		"\x01z\x07example\x00",
		"\x01\x01\x01z\x07example\x00",
		"\x01*\x01z\x07example\x00",
		"\x01\xc8\x01z\x07example\x00",
		"\x01{\x00",
		"\x01\x7f\x00",
		"\x01\x80\x00",
		"\x01\xff\x00",
		"\x01a\x01\xff\x00",
		"\x02\xff\x00\x00",
	}
}

func TestLess(t *testing.T) {
	all := ordered()
	for i, a := range all {
		for j, b := range all {
			if walk.Less(a, b) != (i < j) {
				t.Errorf("2.2: Less(%q, %q) is not %v", a, b, i < j)
			}
		}
	}
	for _, c := range [][2]string{{org, "\x03ORG\x00"}, {aEx, "\x01A\x02eX\x03org\x00"}, {widest(), strings.ToUpper(widest())}} {
		if walk.Less(c[0], c[1]) || walk.Less(c[1], c[0]) {
			t.Errorf("2.2: of %q and %q, that are one, one stands ahead", c[0], c[1])
		}
	}
	for _, n := range noNames() {
		if walk.Less(n, org) || walk.Less(org, n) || walk.Less(root, n) || walk.Less(n, "\x01\xff\x00") || walk.Less("", n) {
			t.Errorf("2.2: %q is no name, but stands in the order", n)
		}
	}
}

func TestSort(t *testing.T) {
	want := ordered()
	back := slices.Clone(want)
	slices.Reverse(back)
	mixed := slices.Concat(want[7:], want[:7])
	for _, l := range [][]string{want, back, mixed, slices.Concat(noNames(), back, noNames())} {
		had := slices.Clone(l)
		if got := walk.Sort(l...); !slices.Equal(got, want) {
			t.Errorf("2.2: Sort(%q) = %q", l, got)
		}
		if !slices.Equal(had, l) {
			t.Errorf("2.2: Sort changed its names to %q", l)
		}
	}
}

func TestSortLeavesTheFirst(t *testing.T) {
	for _, c := range []struct{ l, want []string }{
		{nil, nil},
		{noNames(), nil},
		{[]string{org, org}, []string{org}},
		{[]string{"\x03oRg\x00", org, "\x03ORG\x00"}, []string{"\x03oRg\x00"}},
		{[]string{"\x01B\x00", "\x01a\x00", "\x01b\x00", "\x01A\x00"}, []string{"\x01a\x00", "\x01B\x00"}},
		{[]string{aEx, "", org, "\x01A\x02EX\x03org\x00", root, "\x03ORG\x00"}, []string{root, org, aEx}},
	} {
		if got := walk.Sort(c.l...); !slices.Equal(got, c.want) {
			t.Errorf("2.2: Sort(%q) = %q, not %q", c.l, got, c.want)
		}
	}
}

func TestSortOfManyThatAreOne(t *testing.T) {
	var l []string
	for i := range 128 {
		n := []byte("\x07abcdefg\x00")
		for bit := range 7 {
			if i>>bit&1 == 1 {
				n[1+bit] -= 0x20
			}
		}
		l = append(l, string(n), org)
	}
	for _, l := range [][]string{l, slices.Concat(l[100:], l[:100])} {
		if got := walk.Sort(l...); !slices.Equal(got, []string{l[0], org}) {
			t.Errorf("2.2: Sort does not leave %q, the first, but %q", l[0], got)
		}
	}
}

func TestSortAnswersNewMemory(t *testing.T) {
	l := []string{root, org}
	got := walk.Sort(l...)
	got[0], got[1] = "x", "y"
	if l[0] != root || l[1] != org {
		t.Errorf("2.2: Sort answers its argument: %q", l)
	}
}

func TestOneStandsAhead(t *testing.T) {
	all := sample()
	for _, a := range all {
		for _, b := range all {
			ways := 0
			for _, is := range []bool{walk.Less(a, b), walk.Less(b, a), label.Same(a, b)} {
				if is {
					ways++
				}
			}
			if ways != 1 {
				t.Errorf("2.3: of %q and %q %d things hold", a, b, ways)
			}
			for _, c := range all {
				if walk.Less(a, b) && walk.Less(b, c) && !walk.Less(a, c) {
					t.Errorf("2.3: %q, %q, %q stand in no order", a, b, c)
				}
			}
		}
		if up, why := label.Parent(a); why == api.OK && !walk.Less(up, a) {
			t.Errorf("2.3: %q does not stand ahead of its child %q", up, a)
		}
	}
}

func TestThoseWithinFollowOneAnother(t *testing.T) {
	all := walk.Sort(sample()...)
	for i := 1; i < len(all); i++ {
		if !walk.Less(all[i-1], all[i]) {
			t.Errorf("2.3: %q is sorted ahead of %q", all[i-1], all[i])
		}
	}
	for _, zone := range all {
		runs, inside := 0, false
		for _, n := range all {
			was := inside
			inside = label.Within(n, zone)
			if inside && !was {
				runs++
			}
		}
		if runs != 1 {
			t.Errorf("2.3: those within %q stand in %d places", zone, runs)
		}
	}
}
