package walk_test

import (
	"slices"
	"strings"
	"testing"

	"hardtack/api"
	"hardtack/label"
	"hardtack/walk"
)

const (
	root  = "\x00"
	org   = "\x03org\x00"
	exOrg = "\x02ex\x03org\x00"
	aEx   = "\x01a\x02Ex\x03ORG\x00"
	bEx   = "\x01b\x02eX\x03oRg\x00"
	xaEx  = "\x01x\x01a\x02ex\x03Org\x00"
	trap  = "\x05a\x03org\x00"
)

// noNames are texts that are no names, each for another cause.
func noNames() []string {
	return []string{
		"", "a", "\x01a", "\x03ab", "\x00\x00", "\x01a\x00b", "\xc0\x0c", "org.",
		"\x40" + strings.Repeat("a", 64) + root,
		strings.Repeat("\x01a", 128) + root,
		widest() + root,
	}
}

// widest is a name of MaxName bytes.
func widest() string {
	long := "\x3f" + strings.Repeat("w", 63)
	return long + long + long + "\x3d" + strings.Repeat("w", 61) + root
}

func TestUp(t *testing.T) {
	for _, want := range [][]string{
		{root},
		{org, root},
		{xaEx, "\x01a\x02ex\x03Org\x00", "\x02ex\x03Org\x00", "\x03Org\x00", root},
		{trap, root},
		{"\x02\x00.\x01b\x00", "\x01b\x00", root},
	} {
		seq := walk.Up(want[0])
		for range 2 {
			if got := slices.Collect(seq); !slices.Equal(got, want) {
				t.Errorf("2.1: Up(%q) = %q", want[0], got)
			}
		}
	}
	deep := strings.Repeat("\x01z", 127) + root
	if got := slices.Collect(walk.Up(deep)); len(got) != 128 || got[0] != deep || got[127] != root {
		t.Errorf("2.1: Up of the deepest name tells %d", len(got))
	}
	if got := slices.Collect(walk.Up(widest())); len(got) != 5 || got[0] != widest() || got[4] != root {
		t.Errorf("2.1: Up of the widest name tells %d", len(got))
	}
	for _, n := range noNames() {
		if got := slices.Collect(walk.Up(n)); len(got) != 0 {
			t.Errorf("2.1: Up(%q) = %q, but that is no name", n, got)
		}
	}
}

func TestUpMayBeLeft(t *testing.T) {
	all := slices.Collect(walk.Up(aEx))
	for stop := 1; stop <= len(all); stop++ {
		var got []string
		for n := range walk.Up(aEx) {
			got = append(got, n)
			if len(got) == stop {
				break
			}
		}
		if !slices.Equal(got, all[:stop]) {
			t.Errorf("2.1: the first %d of Up = %q", stop, got)
		}
	}
}

func TestCommon(t *testing.T) {
	for _, c := range []struct{ a, b, want string }{
		{root, root, root},
		{root, org, root},
		{org, root, root},
		{org, "\x03ORG\x00", org},
		{"\x03ORG\x00", org, "\x03ORG\x00"},
		{aEx, bEx, "\x02Ex\x03ORG\x00"},
		{bEx, aEx, "\x02eX\x03oRg\x00"},
		{aEx, xaEx, aEx},
		{xaEx, aEx, "\x01a\x02ex\x03Org\x00"},
		{org, "\x03com\x00", root},
		{trap, org, root},
		{org, trap, root},
		{"\x01a\x03com\x00", "\x01a\x03org\x00", root},
		{widest(), strings.ToUpper(widest()), widest()},
	} {
		if got, why := walk.Common(c.a, c.b); got != c.want || why != api.OK {
			t.Errorf("2.1: Common(%q, %q) = %q, %d", c.a, c.b, got, why)
		}
	}
	for _, n := range noNames() {
		for _, c := range [][2]string{{n, org}, {org, n}, {n, root}, {root, n}, {n, n}} {
			if got, why := walk.Common(c[0], c[1]); got != "" || why != api.ErrForm {
				t.Errorf("2.1: Common(%q, %q) = %q, %d", c[0], c[1], got, why)
			}
		}
	}
}

func TestDepth(t *testing.T) {
	for _, c := range []struct {
		n, zone string
		want    int
	}{
		{root, root, 0},
		{org, root, 1},
		{aEx, root, 3},
		{aEx, org, 2},
		{aEx, exOrg, 1},
		{aEx, "\x01A\x02eX\x03org\x00", 0},
		{xaEx, org, 3},
		{strings.Repeat("\x01z", 127) + root, root, 127},
		{root, org, -1},
		{org, aEx, -1},
		{aEx, bEx, -1},
		{trap, org, -1},
		{org, "\x03com\x00", -1},
	} {
		if got := walk.Depth(c.n, c.zone); got != c.want {
			t.Errorf("2.1: Depth(%q, %q) = %d, not %d", c.n, c.zone, got, c.want)
		}
	}
	for _, n := range noNames() {
		for _, c := range [][2]string{{n, root}, {org, n}, {n, n}} {
			if got := walk.Depth(c[0], c[1]); got != -1 {
				t.Errorf("2.1: Depth(%q, %q) = %d, but one is no name", c[0], c[1], got)
			}
		}
	}
}

func TestNext(t *testing.T) {
	for _, c := range []struct{ zone, n, want string }{
		{root, org, org},
		{root, aEx, "\x03ORG\x00"},
		{org, aEx, "\x02Ex\x03ORG\x00"},
		{exOrg, aEx, aEx},
		{exOrg, xaEx, "\x01a\x02ex\x03Org\x00"},
		{aEx, xaEx, xaEx},
		{root, trap, trap},
	} {
		if got, why := walk.Next(c.zone, c.n); got != c.want || why != api.OK {
			t.Errorf("2.1: Next(%q, %q) = %q, %d", c.zone, c.n, got, why)
		}
	}
	for _, c := range [][2]string{
		{root, root}, {org, org}, {org, "\x03oRG\x00"}, {aEx, "\x01A\x02eX\x03org\x00"},
		{org, root}, {aEx, org}, {aEx, bEx}, {org, "\x01a\x03com\x00"}, {org, trap},
	} {
		if got, why := walk.Next(c[0], c[1]); got != "" || why != api.ErrNone {
			t.Errorf("2.1: Next(%q, %q) = %q, %d, not ErrNone", c[0], c[1], got, why)
		}
	}
	for _, n := range noNames() {
		for _, c := range [][2]string{{n, org}, {root, n}, {org, n}, {n, n}, {n, root}} {
			if got, why := walk.Next(c[0], c[1]); got != "" || why != api.ErrForm {
				t.Errorf("2.1: Next(%q, %q) = %q, %d, not ErrForm", c[0], c[1], got, why)
			}
		}
	}
}

func TestDeepest(t *testing.T) {
	for _, c := range []struct {
		n    string
		l    []string
		want string
	}{
		{root, []string{root}, root},
		{aEx, []string{root}, root},
		{aEx, []string{root, org, bEx}, org},
		{aEx, []string{org, root, bEx}, org},
		{aEx, []string{exOrg, root, org}, exOrg},
		{aEx, []string{xaEx, org, exOrg}, exOrg},
		{aEx, []string{"\x01A\x02EX\x03org\x00", aEx, org}, "\x01A\x02EX\x03org\x00"},
		{aEx, []string{org, aEx, "\x01A\x02EX\x03org\x00"}, aEx},
		{aEx, []string{"", org, "\x01a", "\x01a\x02Ex\x03ORG\x00\x00"}, org},
		{"\x01a\x03com\x00", []string{aEx, root, org}, root},
		{trap, []string{org, root}, root},
	} {
		had := slices.Clone(c.l)
		if got, why := walk.Deepest(c.n, c.l...); got != c.want || why != api.OK {
			t.Errorf("2.2: Deepest(%q, %q) = %q, %d", c.n, c.l, got, why)
		}
		if !slices.Equal(had, c.l) {
			t.Errorf("2.2: Deepest changed its names to %q", c.l)
		}
	}
	for _, l := range [][]string{nil, {}, {bEx, xaEx}, {"", "\x01a", "\x00\x00"}, {"\x03com\x00"}} {
		if got, why := walk.Deepest(aEx, l...); got != "" || why != api.ErrNone {
			t.Errorf("2.2: Deepest(%q, %q) = %q, %d, not ErrNone", aEx, l, got, why)
		}
	}
	for _, n := range noNames() {
		for _, l := range [][]string{nil, {root}, {org, n}} {
			if got, why := walk.Deepest(n, l...); got != "" || why != api.ErrForm {
				t.Errorf("2.2: Deepest(%q, %q) = %q, %d, not ErrForm", n, l, got, why)
			}
		}
	}
}

// sample are names of all shapes, some of them one with others.
func sample() []string {
	return []string{
		root, org, "\x03ORG\x00", "\x03com\x00", exOrg, aEx, bEx, xaEx, trap, widest(),
		"\x01A\x02ex\x03org\x00", "\x01c\x02ex\x03org\x00", "\x02aa\x02ex\x03org\x00", "\x04exam\x03org\x00",
		"\x01a\x00", "\x01b\x00", "\x02ab\x00", "\x01B\x01a\x00", "\x01b\x01A\x00", "\x02\x00b\x01a\x00",
		"\x01\x00\x00", "\x01\x01\x00", "\x01 \x00", "\x01@\x00", "\x01[\x00", "\x01_\x00", "\x01`\x00", "\x01{\x00", "\x01\x7f\x00", "\x01\x80\x00", "\x01\xff\x00",
		"\x02\x01a\x00", "\x02a\x01\x00", "\x01a\x01\x00\x00", "\x02a\x00\x00", "\x01z\x01a\x00", "\x01\xff\x01a\x00",
		strings.Repeat("\x01z", 127) + root,
	}
}

func TestCommonIsDeepest(t *testing.T) {
	all := sample()
	for _, a := range all {
		for _, b := range all {
			c, why := walk.Common(a, b)
			if why != api.OK || !label.Within(a, c) || !label.Within(b, c) {
				t.Errorf("2.4: %q and %q don't both lie within %q, %d", a, b, c, why)
			}
			for _, zone := range all {
				if label.Within(a, zone) && label.Within(b, zone) && !label.Within(c, zone) {
					t.Errorf("2.4: %q and %q lie within %q, but %q does not", a, b, zone, c)
				}
			}
			if back, _ := walk.Common(b, a); !label.Same(c, back) {
				t.Errorf("2.4: %q and %q have %q in common, the other way round %q", a, b, c, back)
			}
		}
	}
}
