package label_test

import (
	"slices"
	"strings"
	"testing"

	"hardtack/api"
	"hardtack/label"
)

// wide are labels that, with the last of 61 bytes, make a name of MaxName bytes.
func wide(last int) []string {
	return []string{strings.Repeat("a", 63), strings.Repeat("b", 63), strings.Repeat("c", 63), strings.Repeat("d", last)}
}

// wire lays labels together by hand, so that the tests need not trust Join.
func wire(labels ...string) string {
	out := ""
	for _, l := range labels {
		out += string([]byte{byte(len(l))}) + l
	}
	return out + "\x00"
}

// noNames are texts that are no names, each for another cause.
func noNames() map[string]string {
	return map[string]string{
		"nothing":                    "",
		"no root":                    "\x01a",
		"a text":                     "a.org.",
		"a label that ends too soon": "\x03ab",
		"a label over the root":      "\x02a\x00",
		"a length alone":             "\x01a\x05",
		"the root twice":             "\x00\x00",
		"bytes behind the root":      "\x01a\x00b",
		"a name behind the root":     "\x01a\x00\x01b\x00",
		"a label of 64 bytes":        wire(strings.Repeat("a", 64)),
		"a label of 255 bytes":       "\xff" + strings.Repeat("a", 255) + "\x00",
		"a pointer":                  "\x01a\xc0\x0c",
		"a name of 256 bytes":        wire(wide(62)...),
		"a name of 257 bytes":        strings.Repeat("\x01a", 128) + "\x00",
		"a long text":                strings.Repeat("a", 1<<20),
	}
}

// names are names of all shapes.
func names() []string {
	return []string{
		"\x00",
		"\x01a\x00",
		"\x01A\x00",
		"\x03org\x00",
		"\x03www\x02Ex\x03org\x00",
		"\x01\x00\x00",
		"\x01.\x01\\\x00",
		"\x03a.b\x01 \x00",
		"\x05a\x03org\x00",
		"\x04\x00\x01a\x00\x01b\x00",
		"\x01\xff\x02\xc3\x89\x00",
		"\x040123\x00",
		wire(strings.Repeat("\x00", 63)),
		wire(strings.Repeat(".", 63), strings.Repeat("\\", 63)),
		wire(wide(61)...),
		wire(strings.Repeat("\xff", 63), strings.Repeat("\x00", 63), strings.Repeat("\x7f", 63), strings.Repeat(" ", 61)),
		strings.Repeat("\x01z", 127) + "\x00",
	}
}

func TestCheck(t *testing.T) {
	for _, n := range names() {
		if why := label.Check(n); why != api.OK {
			t.Errorf("1.1: Check(%q) = %d, it is a name", n, why)
		}
	}
	for what, n := range noNames() {
		if why := label.Check(n); why != api.ErrForm {
			t.Errorf("1.1: Check of %s = %d, not ErrForm", what, why)
		}
	}
	if n := wire(wide(61)...); len(n) != api.MaxName {
		t.Fatalf("the widest name has %d bytes", len(n))
	}
}

func TestFoldOfEachByte(t *testing.T) {
	for i := range 256 {
		in := string([]byte{'x', byte(i), 'Y'})
		want := []byte{'x', byte(i), 'y'}
		if 0x41 <= i && i <= 0x5a {
			want[1] = byte(i) + 0x20
		}
		if got := label.Fold(in); got != string(want) {
			t.Errorf("1.1: Fold(%q) = %q", in, got)
		}
	}
}

func TestFoldOfAnything(t *testing.T) {
	for in, want := range map[string]string{
		"":                       "",
		"A":                      "a",
		"No Name":                "no name",
		"\x03wWw\x02EX\x00":      "\x03www\x02ex\x00",
		"\u00c9\u0130\u212aK":    "\u00c9\u0130\u212ak",
		"\xc3A\xffB\x80":         "\xc3a\xffb\x80",
		"@AZ[`az{":               "@az[`az{",
		strings.Repeat("A", 300): strings.Repeat("a", 300),
	} {
		if got := label.Fold(in); got != want {
			t.Errorf("1.1: Fold(%q) = %q, not %q", in, got, want)
		}
	}
}

func TestSame(t *testing.T) {
	for _, c := range []struct {
		a, b string
		want bool
	}{
		{"\x00", "\x00", true},
		{"\x03wWw\x03oRg\x00", "\x03WwW\x03OrG\x00", true},
		{wire(wide(61)...), strings.ToUpper(wire(wide(61)...)), true},
		{"\x01a\x00", "\x01b\x00", false},
		{"\x01a\x00", "\x00", false},
		{"\x01a\x01b\x00", "\x01b\x01a\x00", false},
		{"\x01a\x01b\x00", "\x03a\x01b\x00", false},
		{"\x01@\x00", "\x01`\x00", false},
		{"\x01[\x00", "\x01{\x00", false},
		{"\x02\xc3\x89\x00", "\x02\xc3\xa9\x00", false},
	} {
		if label.Same(c.a, c.b) != c.want || label.Same(c.b, c.a) != c.want {
			t.Errorf("1.1: Same(%q, %q) is not %v", c.a, c.b, c.want)
		}
	}
	for what, n := range noNames() {
		if label.Same(n, n) || label.Same(n, "\x00") || label.Same("\x00", n) {
			t.Errorf("1.1: Same, but %s is no name", what)
		}
	}
}

func TestLabels(t *testing.T) {
	for _, want := range [][]string{
		nil,
		{"a"},
		{"www", "Ex.a", "ORG"},
		{"\x00", "\x01a", " "},
		{"a\x03org"},
		wide(61),
		slices.Repeat([]string{"x"}, 127),
	} {
		n := wire(want...)
		seq := label.Labels(n)
		for range 2 {
			if got := slices.Collect(seq); !slices.Equal(got, want) {
				t.Errorf("1.1: Labels(%q) = %q", n, got)
			}
		}
		if got := label.Count(n); got != len(want) {
			t.Errorf("1.1: Count(%q) = %d, not %d", n, got, len(want))
		}
	}
}

func TestLabelsOfNoName(t *testing.T) {
	for what, n := range noNames() {
		if got := slices.Collect(label.Labels(n)); len(got) != 0 {
			t.Errorf("1.1: Labels of %s = %q", what, got)
		}
		if got := label.Count(n); got != 0 {
			t.Errorf("1.1: Count of %s = %d", what, got)
		}
	}
}

func TestLabelsMayBeLeft(t *testing.T) {
	for stop := 1; stop <= 3; stop++ {
		var got []string
		for l := range label.Labels("\x01a\x01b\x01c\x00") {
			got = append(got, l)
			if len(got) == stop {
				break
			}
		}
		if want := []string{"a", "b", "c"}[:stop]; !slices.Equal(got, want) {
			t.Errorf("1.1: the first %d labels = %q", stop, got)
		}
	}
}

func TestParent(t *testing.T) {
	for n, want := range map[string]string{
		"\x01a\x00":                "\x00",
		"\x03www\x02Ex\x03ORG\x00": "\x02Ex\x03ORG\x00",
		"\x03a.b\x01c\x00":         "\x01c\x00",
		"\x05a\x03org\x01b\x00":    "\x01b\x00",
		wire(wide(61)...):          wire(wide(61)[1:]...),
	} {
		if got, why := label.Parent(n); got != want || why != api.OK {
			t.Errorf("1.1: Parent(%q) = %q, %d", n, got, why)
		}
	}
	if got, why := label.Parent("\x00"); got != "" || why != api.ErrNone {
		t.Errorf("1.1: Parent of the root = %q, %d", got, why)
	}
	for what, n := range noNames() {
		if got, why := label.Parent(n); got != "" || why != api.ErrForm {
			t.Errorf("1.1: Parent of %s = %q, %d", what, got, why)
		}
	}
}

func TestWithin(t *testing.T) {
	for _, c := range []struct {
		n, zone string
		want    bool
	}{
		{"\x00", "\x00", true},
		{"\x03org\x00", "\x00", true},
		{"\x03org\x00", "\x03ORG\x00", true},
		{"\x03wWw\x02eX\x03oRg\x00", "\x02Ex\x03OrG\x00", true},
		{"\x03www\x02ex\x03org\x00", "\x03org\x00", true},
		{wire(wide(61)...), wire(wide(61)...), true},
		{wire(wide(61)...), wire(strings.Repeat("D", 61)), true},
		{"\x00", "\x03org\x00", false},
		{"\x03org\x00", "\x03www\x03org\x00", false},
		{"\x01a\x03org\x00", "\x01b\x03org\x00", false},
		{"\x01a\x03org\x01b\x00", "\x03org\x00", false},
		{"\x01a\x03org\x01b\x00", "\x01a\x00", false},
		{"\x04xorg\x00", "\x03org\x00", false},
		{"\x05a\x03org\x00", "\x03org\x00", false},
		{"\x03org\x00", "\x02rg\x00", false},
		{"\x01[\x00", "\x01{\x00", false},
	} {
		if label.Within(c.n, c.zone) != c.want {
			t.Errorf("1.1: Within(%q, %q) is not %v", c.n, c.zone, c.want)
		}
	}
	for what, n := range noNames() {
		if label.Within(n, n) || label.Within(n, "\x00") || label.Within("\x01a\x00", n) {
			t.Errorf("1.1: Within, but %s is no name", what)
		}
	}
	if label.Within("\x01b\x01a", "\x01a") || label.Within("\x01a\x00\x00", "\x00\x00") {
		t.Error("1.1: Within of two that are no names, but end alike")
	}
}

func TestJoin(t *testing.T) {
	full := strings.Repeat("F", 63)
	for _, c := range []struct {
		n      string
		labels []string
		want   string
	}{
		{"\x00", nil, "\x00"},
		{"\x03Org\x00", nil, "\x03Org\x00"},
		{"\x00", []string{"a"}, "\x01a\x00"},
		{"\x03Org\x00", []string{"www", "Ex.a"}, "\x03www\x04Ex.a\x03Org\x00"},
		{"\x01c\x00", []string{"\x00", "\xff"}, "\x01\x00\x01\xff\x01c\x00"},
		{"\x01a\x00", []string{full}, wire(full, "a")},
		{wire(wide(61)[1:]...), wide(61)[:1], wire(wide(61)...)},
		{"\x00", wide(61), wire(wide(61)...)},
		{wire(wide(61)...), nil, wire(wide(61)...)},
		{"\x01z\x00", slices.Repeat([]string{"z"}, 126), strings.Repeat("\x01z", 127) + "\x00"},
	} {
		had := slices.Clone(c.labels)
		if got, why := label.Join(c.n, c.labels...); got != c.want || why != api.OK {
			t.Errorf("1.2: Join(%q, %q) = %q, %d", c.n, c.labels, got, why)
		}
		if !slices.Equal(had, c.labels) {
			t.Errorf("1.2: Join changed its labels to %q", c.labels)
		}
	}
}

func TestJoinWrong(t *testing.T) {
	big := strings.Repeat("a", 64)
	over := wide(62)
	for _, c := range []struct {
		n      string
		labels []string
		want   api.Errno
	}{
		{"\x00", []string{""}, api.ErrForm},
		{"\x00", []string{"a", "", "b"}, api.ErrForm},
		{"\x00", []string{big}, api.ErrForm},
		{"\x00", []string{"a", strings.Repeat("a", 256)}, api.ErrForm},
		{"\x00", []string{strings.Repeat("a", 257)}, api.ErrForm},
		{"\x00", append(slices.Clone(over), ""), api.ErrForm},
		{"\x00", append([]string{big}, over...), api.ErrForm},
		{"\x00", slices.Concat(over, over, []string{big}), api.ErrForm},
		{"\x00", over, api.ErrLong},
		{wire(over[1:]...), over[:1], api.ErrLong},
		{wire(wide(61)...), []string{"a"}, api.ErrLong},
		{"\x01a\x00", slices.Repeat([]string{"a"}, 127), api.ErrLong},
		{"\x00", slices.Repeat([]string{"a"}, 1<<17), api.ErrLong},
	} {
		if got, why := label.Join(c.n, c.labels...); got != "" || why != c.want {
			t.Errorf("1.2: Join of %d labels = %q, %d, not %d", len(c.labels), got, why, c.want)
		}
	}
	for what, n := range noNames() {
		for _, labels := range [][]string{nil, {"a"}, {""}, over} {
			if got, why := label.Join(n, labels...); got != "" || why != api.ErrForm {
				t.Errorf("1.2: Join of %s = %q, %d", what, got, why)
			}
		}
	}
}

func TestUpAndDown(t *testing.T) {
	for _, n := range names() {
		up, why := label.Parent(n)
		if why != api.OK {
			continue
		}
		if label.Count(n) != label.Count(up)+1 {
			t.Errorf("1.5: %q has not one label more than %q", n, up)
		}
		if !label.Within(n, up) || label.Within(up, n) {
			t.Errorf("1.5: %q does not lie below %q", n, up)
		}
		if first := slices.Collect(label.Labels(n))[0]; !joins(up, first, n) {
			t.Errorf("1.5: %q is not %q ahead of %q", n, first, up)
		}
	}
}

func joins(n, first, want string) bool {
	got, why := label.Join(n, first)
	return got == want && why == api.OK
}

func TestWithinOneLiesWithinItsParent(t *testing.T) {
	all := append(names(), "\x01b\x01A\x00", "\x01c\x01B\x01a\x00", "\x02ex\x03ORG\x00", "\x01x\x02ex\x03org\x00")
	met := 0
	for _, n := range all {
		for _, zone := range all {
			up, why := label.Parent(zone)
			if why != api.OK || !label.Within(n, zone) {
				continue
			}
			met++
			if !label.Within(n, up) {
				t.Errorf("1.5: %q lies within %q, but not within %q", n, zone, up)
			}
		}
	}
	if met <= len(all) {
		t.Errorf("1.5: only %d pairs were looked at", met)
	}
}
