package pack_test

import (
	"math"
	"strings"
	"testing"

	"hardtack/api"
	"hardtack/pack"
)

// wire lays labels together by hand, so that the tests need not trust another package.
func wire(labels ...string) string {
	out := ""
	for _, l := range labels {
		out += string([]byte{byte(len(l))}) + l
	}
	return out + "\x00"
}

// wide is a name of MaxName bytes.
func wide() string {
	return wire(strings.Repeat("a", 63), strings.Repeat("b", 63), strings.Repeat("c", 63), strings.Repeat("d", 61))
}

// noNames are texts that are no names, each for another cause.
func noNames() []string {
	return []string{
		"",
		"\x01a",
		"a.org.",
		"\x03ab",
		"\x01a\x05",
		"\x00\x00",
		"\x01a\x00b",
		"\x01a\xc0\x00",
		"\xc0\x00",
		wire(strings.Repeat("a", 64)),
		wire(strings.Repeat("a", 63), strings.Repeat("b", 63), strings.Repeat("c", 63), strings.Repeat("d", 62)),
		strings.Repeat("\x01a", 128) + "\x00",
	}
}

// is holds what a writer has against what it should have.
func is(t *testing.T, what string, w *pack.Writer, want string) {
	t.Helper()
	if w.Len() != len(want) {
		t.Errorf("%s: Len() = %d, not %d", what, w.Len(), len(want))
	}
	if got, why := w.Out(); got != want || why != api.OK {
		t.Errorf("%s: Out() = %q, %d, not %q", what, got, why, want)
	}
}

// isLong is for a writer that could not write all, but so many bytes.
func isLong(t *testing.T, what string, w *pack.Writer, many int) {
	t.Helper()
	if w.Len() != many {
		t.Errorf("%s: Len() = %d, not %d", what, w.Len(), many)
	}
	if got, why := w.Out(); got != "" || why != api.ErrLong {
		t.Errorf("%s: Out() = %q, %d, not ErrLong", what, got, why)
	}
}

func TestNewIsEmpty(t *testing.T) {
	for _, limit := range []int{0, 1, 12, -1, math.MaxInt, math.MinInt} {
		is(t, "3.1: a new writer", pack.New(limit), "")
	}
}

func TestWriteNum(t *testing.T) {
	for _, c := range []struct {
		width int
		n     uint64
		want  string
	}{
		{1, 0, "\x00"},
		{1, 0xff, "\xff"},
		{1, 0x123, "\x23"},
		{2, 0x0102, "\x01\x02"},
		{2, 0xabcdef, "\xcd\xef"},
		{4, 0x01020304, "\x01\x02\x03\x04"},
		{4, 0xffeeddccbbaa9988, "\xbb\xaa\x99\x88"},
		{8, 0x0102030405060708, "\x01\x02\x03\x04\x05\x06\x07\x08"},
		{8, math.MaxUint64, "\xff\xff\xff\xff\xff\xff\xff\xff"},
		{8, 1, "\x00\x00\x00\x00\x00\x00\x00\x01"},
	} {
		w := pack.New(9)
		w.Raw("!")
		w.Num(c.width, c.n)
		is(t, "3.1: Num", w, "!"+c.want)
	}
}

func TestWriteNumOfNoWidth(t *testing.T) {
	for _, width := range []int{0, 3, 5, 6, 7, 9, 16, -1, -8, math.MaxInt, math.MinInt} {
		w := pack.New(2)
		w.Num(width, 5)
		is(t, "3.1: Num of no width", w, "")
		w.Raw("ab")
		w.Num(width, 5)
		is(t, "3.1: Num of no width, where there is no room", w, "ab")
	}
}

func TestWriteRaw(t *testing.T) {
	w := pack.New(8)
	w.Raw("")
	w.Raw("a\x00")
	w.Raw("")
	w.Raw("\xff\xc0bcd")
	w.Raw("!")
	is(t, "3.1: Raw", w, "a\x00\xff\xc0bcd!")
	w.Raw("")
	is(t, "3.1: Raw of nothing, where there is no room", w, "a\x00\xff\xc0bcd!")
}

func TestWriteNames(t *testing.T) {
	for what, c := range map[string]struct {
		names []string
		want  string
	}{
		"one name":                     {[]string{"\x01a\x03org\x00"}, "\x01a\x03org\x00"},
		"roots are not pointed to":     {[]string{"\x00", "\x00", "\x01a\x00", "\x00"}, "\x00\x00\x01a\x00\x00"},
		"a name again":                 {[]string{"\x01a\x03org\x00", "\x01a\x03org\x00"}, "\x01a\x03org\x00\xc0\x00"},
		"a rest of it":                 {[]string{"\x01a\x03org\x00", "\x03org\x00"}, "\x01a\x03org\x00\xc0\x02"},
		"behind a label":               {[]string{"\x01a\x03org\x00", "\x01b\x03org\x00"}, "\x01a\x03org\x00\x01b\xc0\x02"},
		"behind what ends so":          {[]string{"\x03org\x00", "\x01b\x03org\x00", "\x01c\x01b\x03org\x00"}, "\x03org\x00\x01b\xc0\x00\x01c\xc0\x05"},
		"the longest rest":             {[]string{"\x03org\x00", "\x01a\x03org\x00", "\x01b\x01a\x03org\x00"}, "\x03org\x00\x01a\xc0\x00\x01b\xc0\x05"},
		"the first place of them":      {[]string{"\x03org\x00", "\x03org\x00", "\x01a\x03org\x00"}, "\x03org\x00\xc0\x00\x01a\xc0\x00"},
		"great letters are others":     {[]string{"\x03org\x00", "\x03Org\x00", "\x01a\x03Org\x00"}, "\x03org\x00\x03Org\x00\x01a\xc0\x05"},
		"great letters within":         {[]string{"\x01a\x01B\x01c\x00", "\x01a\x01b\x01c\x00"}, "\x01a\x01B\x01c\x00\x01a\x01b\xc0\x04"},
		"a label alike, but no rest":   {[]string{"\x01a\x01b\x00", "\x01a\x00"}, "\x01a\x01b\x00\x01a\x00"},
		"a rest within a label":        {[]string{"\x05a\x03org\x00", "\x03org\x00"}, "\x05a\x03org\x00\x03org\x00"},
		"what is no name between them": {[]string{"\x01a\x00", "\x01a", "\x01a\x00"}, "\x01a\x00\xc0\x00"},
	} {
		w := pack.New(1000)
		for _, n := range c.names {
			w.Name(n)
		}
		is(t, "3.1: "+what, w, c.want)
	}
}

func TestWriteFull(t *testing.T) {
	w := pack.New(1000)
	w.Raw("!")
	w.Full("\x01a\x03org\x00")
	w.Full("\x01a\x03org\x00")
	w.Name("\x01b\x03org\x00")
	w.Full("\x01c\x01b\x03org\x00")
	w.Name("\x01c\x01b\x03org\x00")
	w.Name("\x01b\x03org\x00")
	w.Full("\x00")
	w.Full(wide())
	is(t, "3.1: Full", w, "!\x01a\x03org\x00\x01a\x03org\x00\x01b\xc0\x03\x01c\x01b\x03org\x00\xc0\x13\xc0\x0f\x00"+wide())
}

func TestWriteNoName(t *testing.T) {
	for _, n := range noNames() {
		w := pack.New(3)
		w.Name(n)
		w.Full(n)
		is(t, "3.1: no name", w, "")
		w.Raw("abc")
		w.Name(n)
		w.Full(n)
		is(t, "3.1: no name, where there is no room", w, "abc")
	}
}

func TestOnlyNamesArePointedTo(t *testing.T) {
	w := pack.New(100)
	w.Raw("\x03org\x00")
	w.Name("\x03org\x00")
	is(t, "3.1: bytes like a name's", w, "\x03org\x00\x03org\x00")
	other := pack.New(100)
	other.Name("\x03org\x00")
	is(t, "3.1: another writer's name", other, "\x03org\x00")
}

func TestPlacesThatAreTooFar(t *testing.T) {
	for _, c := range []struct {
		ahead int
		want  string
	}{
		{1<<14 - 4, "\x01a\x01b\x00" + "\x01c\xff\xfc" + "\xff\xfe" + "\xff\xfc"},
		{1<<14 - 3, "\x01a\x01b\x00" + "\x01c\xff\xfd" + "\xff\xff" + "\xff\xfd"},
		{1<<14 - 2, "\x01a\x01b\x00" + "\x01c\xff\xfe" + "\x01b\x00" + "\xff\xfe"},
		{1<<14 - 1, "\x01a\x01b\x00" + "\x01c\xff\xff" + "\x01b\x00" + "\xff\xff"},
		{1 << 14, "\x01a\x01b\x00" + "\x01c\x01a\x01b\x00" + "\x01b\x00" + "\x01a\x01b\x00"},
	} {
		for _, first := range []func(*pack.Writer, string){(*pack.Writer).Name, (*pack.Writer).Full} {
			w := pack.New(1 << 16)
			w.Raw(strings.Repeat(".", c.ahead))
			first(w, "\x01a\x01b\x00")
			w.Name("\x01c\x01a\x01b\x00")
			w.Name("\x01b\x00")
			w.Name("\x01a\x01b\x00")
			is(t, "3.1: names far behind", w, strings.Repeat(".", c.ahead)+c.want)
		}
	}
}

func TestNearPlaceIsPointedToFromFar(t *testing.T) {
	w := pack.New(1 << 17)
	w.Name("\x01a\x00")
	ahead := strings.Repeat(".", 1<<16)
	w.Raw(ahead)
	w.Name("\x01a\x00")
	w.Name("\x01b\x01a\x00")
	is(t, "3.1: far behind the place", w, "\x01a\x00"+ahead+"\xc0\x00\x01b\xc0\x00")
}

// pieces write something, as so many bytes, one piece after the other, into a writer that has "!\x01a\x00" already.
func pieces() map[string]struct {
	write func(*pack.Writer)
	sizes []int
} {
	return map[string]struct {
		write func(*pack.Writer)
		sizes []int
	}{
		"Num of 1":          {func(w *pack.Writer) { w.Num(1, 5) }, []int{1}},
		"Num of 2":          {func(w *pack.Writer) { w.Num(2, 5) }, []int{2}},
		"Num of 4":          {func(w *pack.Writer) { w.Num(4, 5) }, []int{4}},
		"Num of 8":          {func(w *pack.Writer) { w.Num(8, 5) }, []int{8}},
		"Raw":               {func(w *pack.Writer) { w.Raw("12345") }, []int{5}},
		"Name":              {func(w *pack.Writer) { w.Name("\x03www\x02ex\x00") }, []int{4, 3, 1}},
		"Name of the root":  {func(w *pack.Writer) { w.Name("\x00") }, []int{1}},
		"Name with pointer": {func(w *pack.Writer) { w.Name("\x03www\x02ex\x01a\x00") }, []int{4, 3, 2}},
		"a pointer alone":   {func(w *pack.Writer) { w.Name("\x01a\x00") }, []int{2}},
		"Full":              {func(w *pack.Writer) { w.Full("\x03www\x01a\x00") }, []int{4, 2, 1}},
		"all of them": {func(w *pack.Writer) {
			w.Raw("abc")
			w.Num(2, 7)
			w.Name("\x01b\x01a\x00")
			w.Num(4, 1)
			w.Raw("d")
		}, []int{3, 2, 2, 2, 4, 1}},
	}
}

func TestLimit(t *testing.T) {
	const ahead = "!\x01a\x00"
	for what, p := range pieces() {
		size := 0
		for _, n := range p.sizes {
			size += n
		}
		for room := range size + 2 {
			w := pack.New(len(ahead) + room)
			w.Raw("!")
			w.Name("\x01a\x00")
			p.write(w)
			if room >= size {
				if _, why := w.Out(); why != api.OK || w.Len() != len(ahead)+size {
					t.Errorf("3.1: %s with room for %d: Len() = %d, %d", what, room, w.Len(), why)
				}
				continue
			}
			want := len(ahead)
			left := room
			for _, n := range p.sizes {
				if n > left {
					break
				}
				want, left = want+n, left-n
			}
			isLong(t, "3.1: "+what+" with less room", w, want)
		}
	}
}

func TestNothingBehindWhatDidNotFit(t *testing.T) {
	for what, after := range pieces() {
		w := pack.New(40)
		w.Raw("12")
		w.Name("\x01a\x00")
		w.Raw(strings.Repeat("x", 36))
		isLong(t, "3.1: too long a text", w, 5)
		after.write(w)
		isLong(t, "3.1: "+what+" behind too long a text", w, 5)
	}
}

func TestLimitWithoutRoom(t *testing.T) {
	for _, limit := range []int{0, -1, math.MinInt} {
		for what, p := range pieces() {
			w := pack.New(limit)
			p.write(w)
			isLong(t, "3.1: "+what+" without room", w, 0)
		}
	}
	for _, limit := range []int{0, -1, math.MinInt} {
		w := pack.New(limit)
		w.Raw("")
		w.Set(0, 5)
		is(t, "3.1: nothing in no room", w, "")
	}
}

func TestGreatLimit(t *testing.T) {
	w := pack.New(math.MaxInt)
	w.Raw("abc")
	w.Num(2, 0x6465)
	w.Name("\x01a\x00")
	is(t, "3.1: the greatest limit", w, "abcde\x01a\x00")
}

func TestSet(t *testing.T) {
	for at, want := range map[int]string{
		0:               "\x12\x34cde",
		1:               "a\x12\x34de",
		3:               "abc\x12\x34",
		4:               "abcde",
		5:               "abcde",
		6:               "abcde",
		-1:              "abcde",
		-2:              "abcde",
		math.MaxInt:     "abcde",
		math.MaxInt - 1: "abcde",
		math.MinInt:     "abcde",
	} {
		w := pack.New(5)
		w.Raw("abc")
		w.Raw("de")
		w.Set(at, 0x1234)
		is(t, "3.1: Set", w, want)
	}
	for _, had := range []string{"", "a"} {
		w := pack.New(5)
		w.Raw(had)
		for at := -2; at <= 2; at++ {
			w.Set(at, 0x1234)
		}
		is(t, "3.1: Set where there are too few bytes", w, had)
	}
}

func TestSetKeepsWritingWhereItWas(t *testing.T) {
	w := pack.New(100)
	w.Num(2, 0)
	w.Raw("abc")
	w.Set(0, uint16(w.Len()))
	w.Raw("d")
	w.Set(0, 0xfffe)
	is(t, "3.1: Set, and more", w, "\xff\xfeabcd")
}

func TestOutIsNotTheWritersOwn(t *testing.T) {
	w := pack.New(100)
	w.Raw("abcd")
	first, _ := w.Out()
	w.Set(0, 0)
	w.Raw("e")
	is(t, "3.1: Out, and more", w, "\x00\x00cde")
	if first != "abcd" {
		t.Errorf("3.1: what Out had told is %q now", first)
	}
}

func TestOutOnceLong(t *testing.T) {
	w := pack.New(4)
	w.Raw("abcd")
	is(t, "3.1: up to the limit", w, "abcd")
	w.Num(1, 0)
	isLong(t, "3.1: behind the limit", w, 4)
	w.Set(0, 0)
	isLong(t, "3.1: behind the limit, and set", w, 4)
	isLong(t, "3.1: behind the limit, asked again", w, 4)
}
