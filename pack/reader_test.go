package pack_test

import (
	"math"
	"strings"
	"testing"

	"hardtack/pack"
)

// isBad tells that a reader is bad, and answers zero from there on.
func isBad(t *testing.T, what string, r *pack.Reader) {
	t.Helper()
	for range 2 {
		if !r.Bad() || r.Left() != 0 {
			t.Errorf("%s: Bad() = %v, Left() = %d", what, r.Bad(), r.Left())
		}
		if n, s, name := r.Num(1), r.Raw(0), r.Name(); n != 0 || s != "" || name != "" {
			t.Errorf("%s: bad, but Num(1) = %d, Raw(0) = %q, Name() = %q", what, n, s, name)
		}
		if p := r.Part(0); !p.Bad() || p.Left() != 0 || p.Raw(0) != "" {
			t.Errorf("%s: bad, but its part is not", what)
		}
	}
}

// isAt tells that a reader is not bad, and where it is.
func isAt(t *testing.T, what string, r *pack.Reader, at, left int) {
	t.Helper()
	if r.Bad() || r.At() != at || r.Left() != left {
		t.Errorf("%s: Bad() = %v, At() = %d, Left() = %d, not %d and %d", what, r.Bad(), r.At(), r.Left(), at, left)
	}
}

func TestOpen(t *testing.T) {
	isAt(t, "3.2: of nothing", pack.Open(""), 0, 0)
	isAt(t, "3.2: of three bytes", pack.Open("abc"), 0, 3)
}

func TestReadNum(t *testing.T) {
	r := pack.Open("\xfe\x01\x02\xff\xee\xdd\xcc\x80\x01\x02\x03\x04\x05\x06\x07!")
	for _, c := range []struct {
		width int
		want  uint64
		at    int
	}{{1, 0xfe, 1}, {2, 0x0102, 3}, {4, 0xffeeddcc, 7}, {8, 0x8001020304050607, 15}, {1, '!', 16}} {
		if got := r.Num(c.width); got != c.want {
			t.Errorf("3.2: Num(%d) = %x, not %x", c.width, got, c.want)
		}
		isAt(t, "3.2: behind Num", r, c.at, 16-c.at)
	}
}

func TestReadNumBad(t *testing.T) {
	for _, width := range []int{1, 2, 4, 8} {
		for few := range width {
			r := pack.Open("!" + strings.Repeat("\xff", few))
			r.Raw(1)
			if got := r.Num(width); got != 0 {
				t.Errorf("3.2: Num(%d) of %d bytes = %x", width, few, got)
			}
			isBad(t, "3.2: Num of too few bytes", r)
		}
	}
	for _, width := range []int{0, 3, 5, 6, 7, 9, 16, -1, math.MaxInt, math.MinInt} {
		r := pack.Open("0123456789abcdefghi")
		if got := r.Num(width); got != 0 {
			t.Errorf("3.2: Num(%d) = %x", width, got)
		}
		isBad(t, "3.2: Num of no width", r)
	}
}

func TestReadRaw(t *testing.T) {
	r := pack.Open("abc\x00\xff")
	for _, c := range []struct {
		n    int
		want string
		at   int
	}{{0, "", 0}, {2, "ab", 2}, {0, "", 2}, {3, "c\x00\xff", 5}, {0, "", 5}} {
		if got := r.Raw(c.n); got != c.want {
			t.Errorf("3.2: Raw(%d) = %q, not %q", c.n, got, c.want)
		}
		isAt(t, "3.2: behind Raw", r, c.at, 5-c.at)
	}
}

func TestReadRawBad(t *testing.T) {
	for _, n := range []int{-1, math.MinInt, 3, 4, math.MaxInt} {
		r := pack.Open("abc")
		r.Raw(1)
		if got := r.Raw(n); got != "" {
			t.Errorf("3.2: Raw(%d) = %q", n, got)
		}
		isBad(t, "3.2: Raw of too many", r)
	}
}

func TestReadName(t *testing.T) {
	long := strings.Repeat("\x01z", 127) + "\x00"
	for what, c := range map[string]struct {
		s    string
		from int
		want string
		at   int
	}{
		"the root":                     {"\x00", 0, "\x00", 1},
		"a name, and more behind":      {"\x01a\x03Org\x00\x01b\x00", 0, "\x01a\x03Org\x00", 7},
		"a name behind others":         {"\x01a\x00\x01b\x00!", 3, "\x01b\x00", 6},
		"bytes of all kinds":           {"\x04\x00\xc0\xff.\x00", 0, "\x04\x00\xc0\xff.\x00", 6},
		"the widest label":             {wire(strings.Repeat("a", 63)), 0, wire(strings.Repeat("a", 63)), 65},
		"the widest name":              {wide() + "!", 0, wide(), 255},
		"a name of most labels":        {long, 0, long, 255},
		"a pointer alone":              {"\x01a\x00\xc0\x00!", 3, "\x01a\x00", 5},
		"a label and a pointer":        {"\x03org\x00\x01a\xc0\x00!", 5, "\x01a\x03org\x00", 9},
		"a pointer to a byte 0":        {"\x00\x01a\xc0\x00", 1, "\x01a\x00", 5},
		"a pointer to the byte 0":      {"\x01a\x00\x01b\xc0\x02", 3, "\x01b\x00", 7},
		"a pointer by one place":       {"\x00\xc0\x00", 1, "\x00", 3},
		"a pointer to a pointer":       {"\x01a\x00\xc0\x00\xc0\x03!", 5, "\x01a\x00", 7},
		"pointers behind labels":       {"\x01a\x00\x01b\xc0\x00\x01c\xc0\x03!", 7, "\x01c\x01b\x01a\x00", 11},
		"a pointer into a label":       {"\x03\x01a\x00\x00\x01b\xc0\x01", 5, "\x01b\x01a\x00", 9},
		"a pointer to other bytes":     {"\x12\x34\x01a\x00\xc0\x02", 5, "\x01a\x00", 7},
		"labels on over the pointer":   {"\x02\xc0\x00\x00\xc0\x00", 4, "\x02\xc0\x00\x00", 6},
		"labels on over its beginning": {"\x03x\xc0\x00\x00", 2, "\x03x\xc0\x00\x00", 4},
		"a later pointer further on":   {"\x00\x03x\xc0\x01\xc0\x00", 3, "\x03x\xc0\x01\x00", 5},
	} {
		r := pack.Open(c.s)
		r.Raw(c.from)
		if got := r.Name(); got != c.want {
			t.Errorf("3.2: Name() of %s = %q, not %q", what, got, c.want)
		}
		isAt(t, "3.2: behind "+what, r, c.at, len(c.s)-c.at)
	}
}

func TestReadNameFarBack(t *testing.T) {
	for _, at := range []int{1, 0xff, 0x100, 0x1234, 1<<14 - 1} {
		s := strings.Repeat("\x05", at) + "\x01a\x00" + strings.Repeat("\x05", 1<<14)
		from := len(s)
		s += "\x01b" + string([]byte{0xc0 | byte(at>>8), byte(at)}) + "!"
		r := pack.Open(s)
		r.Raw(from)
		if got := r.Name(); got != "\x01b\x01a\x00" {
			t.Errorf("3.2: Name() that points to %d = %q", at, got)
		}
		isAt(t, "3.2: behind a name that points far back", r, from+4, 1)
	}
}

func TestReadNoName(t *testing.T) {
	for what, c := range map[string]struct {
		s    string
		from int
	}{
		"nothing":                        {"", 0},
		"nothing behind a name":          {"\x01a\x00", 3},
		"no byte 0":                      {"\x01a", 0},
		"half a label":                   {"\x03ab", 0},
		"a length alone":                 {"\x01a\x3f", 0},
		"half a pointer":                 {"\x01a\x00\x01b\xc0", 3},
		"half a pointer alone":           {"\x01a\x00\xc0", 3},
		"a pointer to itself":            {"\xc0\x00", 0},
		"a pointer to itself, behind":    {"\x01a\x00\xc0\x03", 3},
		"a pointer to its labels":        {"\x01a\xc0\x00", 0},
		"a pointer into its labels":      {"\x02a\x00\xc0\x02", 0},
		"a pointer to its label, later":  {"\x01a\x00\x01b\xc0\x03", 3},
		"a pointer forth":                {"\xc0\x02\x00", 0},
		"a pointer forth, behind labels": {"\x01a\xc0\x04\x00", 0},
		"a pointer behind all":           {"\x01a\xc0\x20\x00", 0},
		"the last place":                 {"\x01a\xff\xff\x00", 0},
		"two that point to each other":   {"\xc0\x02\xc0\x00", 2},
		"back, and forth":                {"\xc0\x03!\x00\xc0\x00", 4},
		"back, and to where it began":    {"!\x01a\xc0\x03\xc0\x01", 5},
		"back, and back to the labels":   {"!\x01a\xc0\x01\xc0\x01", 5},
		"back to what is no label":       {"\x40\x00\xc0\x00", 2},
		"back to what ends too soon":     {"\x3fab\xc0\x00", 3},
		"a label of 64 bytes":            {wire(strings.Repeat("a", 64)), 0},
		"a length of 7f":                 {"\x7f" + strings.Repeat("a", 127) + "\x00", 0},
		"a length of 80":                 {"\x80" + strings.Repeat("a", 128) + "\x00", 0},
		"a length of bf":                 {"\xbf" + strings.Repeat("a", 191) + "\x00", 0},
		"bits 80 in place of c0":         {"\x01a\x00\x80\x00\x00", 3},
		"bits 40 in place of c0":         {"\x01a\x00\x40\x00\x00", 3},
		"a name of 256 bytes":            {wire(strings.Repeat("a", 63), strings.Repeat("b", 63), strings.Repeat("c", 63), strings.Repeat("d", 62)), 0},
		"a name of 257 bytes":            {strings.Repeat("\x01a", 128) + "\x00", 0},
		"too long by a pointer":          {wide() + "\x01a\xc0\x00", 255},
		"too long by pointers":           {strings.Repeat("\x01a", 60) + "\x00" + strings.Repeat("\x01b", 60) + "\xc0\x00" + strings.Repeat("\x01c", 10) + "\xc0\x79", 243},
	} {
		r := pack.Open(c.s)
		r.Raw(c.from)
		if r.Bad() || r.At() != c.from {
			t.Fatalf("3.2: %s: there are no %d bytes ahead", what, c.from)
		}
		if got := r.Name(); got != "" {
			t.Errorf("3.2: Name() of %s = %q", what, got)
		}
		isBad(t, "3.2: Name() of "+what, r)
	}
}

func TestReadNameOfFullLengthByPointers(t *testing.T) {
	first := wire(strings.Repeat("a", 63), strings.Repeat("b", 63), strings.Repeat("c", 63))
	s := first + "\x3d" + strings.Repeat("d", 61) + "\xc0\x00" + "\x3e" + strings.Repeat("e", 62) + "\xc0\x00"
	r := pack.Open(s)
	r.Raw(len(first))
	if got := r.Name(); got != "\x3d"+strings.Repeat("d", 61)+first {
		t.Errorf("3.2: Name() of 255 bytes, by a pointer = %q", got)
	}
	isAt(t, "3.2: behind a name of 255 bytes", r, len(first)+64, 65)
	if got := r.Name(); got != "" {
		t.Errorf("3.2: Name() of 256 bytes, by a pointer = %q", got)
	}
	isBad(t, "3.2: Name() of 256 bytes, by a pointer", r)
}

func TestReadNameByManyPointers(t *testing.T) {
	s := []byte("\x01a\x00\xc0\x00")
	for at := 3; at < 1<<14-2; at += 2 {
		s = append(s, 0xc0|byte(at>>8), byte(at))
	}
	r := pack.Open(string(s))
	r.Raw(len(s) - 2)
	if got := r.Name(); got != "\x01a\x00" {
		t.Errorf("3.2: Name() by %d pointers = %q", len(s)/2-1, got)
	}
	isAt(t, "3.2: behind many pointers", r, len(s), 0)
}

func TestReadNameEndsAlsoOfMuch(t *testing.T) {
	labels := strings.Repeat("\x01a", 1<<13-1)
	s := labels + "\xc0\x00" + strings.Repeat("\x01a", 1<<20)
	for _, from := range []int{0, 2, len(labels), len(labels) + 2} {
		r := pack.Open(s)
		r.Raw(from)
		if got := r.Name(); got != "" {
			t.Errorf("3.2: Name() of far too much = %q", got)
		}
		isBad(t, "3.2: Name() of far too much", r)
	}
}

func TestPart(t *testing.T) {
	r := pack.Open("\x01a\x00\x01b\xc0\x00\x01c\x00!")
	r.Raw(3)
	p := r.Part(4)
	isAt(t, "3.2: behind a part", r, 7, 4)
	isAt(t, "3.2: a part", p, 3, 4)
	if got := p.Name(); got != "\x01b\x01a\x00" {
		t.Errorf("3.2: a part's name, that points ahead of it = %q", got)
	}
	isAt(t, "3.2: a part's end", p, 7, 0)
	isAt(t, "3.2: behind a part that was read", r, 7, 4)
	if got := p.Num(1); got != 0 {
		t.Errorf("3.2: Num(1) behind a part = %d", got)
	}
	isBad(t, "3.2: a part that was read too far", p)
	isAt(t, "3.2: behind a bad part", r, 7, 4)
	if got := r.Name(); got != "\x01c\x00" {
		t.Errorf("3.2: a name behind a part = %q", got)
	}
	isAt(t, "3.2: behind a part, and a name", r, 10, 1)
}

func TestPartOfPart(t *testing.T) {
	r := pack.Open("abcdefgh")
	r.Raw(1)
	p := r.Part(6)
	p.Raw(2)
	q := p.Part(3)
	if got := q.Raw(3); got != "def" {
		t.Errorf("3.2: a part's part = %q", got)
	}
	isAt(t, "3.2: a part's part", q, 6, 0)
	isAt(t, "3.2: behind a part's part", p, 6, 1)
	if p.Part(2); !p.Bad() || r.Bad() {
		t.Error("3.2: a part's part that is longer than the part")
	}
}

func TestPartEndsWhereItEnds(t *testing.T) {
	for what, n := range map[string]int{"a label": 1, "half a label": 3, "the byte 0": 4} {
		r := pack.Open("\x03abc\x00")
		p := r.Part(n)
		if got := p.Name(); got != "" {
			t.Errorf("3.2: Name() in a part without %s = %q", what, got)
		}
		isBad(t, "3.2: a part without "+what, p)
		isAt(t, "3.2: behind a part", r, n, 5-n)
	}
}

func TestPartOfNothing(t *testing.T) {
	r := pack.Open("ab")
	for at := range 3 {
		p := r.Part(0)
		isAt(t, "3.2: a part of no bytes", p, at, 0)
		isAt(t, "3.2: behind a part of no bytes", r, at, 2-at)
		if at < 2 {
			r.Raw(1)
		}
	}
}

func TestPartBad(t *testing.T) {
	for _, n := range []int{-1, math.MinInt, 3, math.MaxInt} {
		r := pack.Open("abc")
		r.Raw(1)
		isBad(t, "3.2: a part of too many bytes", r.Part(n))
		isBad(t, "3.2: a reader of which a part had too many", r)
	}
}

func TestBadStaysBad(t *testing.T) {
	r := pack.Open("abcdef")
	r.Raw(7)
	for _, read := range []func(){func() { r.Num(8) }, func() { r.Raw(1) }, func() { r.Name() }, func() { r.Part(1) }, func() { r.Raw(-1) }} {
		read()
		isBad(t, "3.2: a reader that was bad", r)
	}
}
