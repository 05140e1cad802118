package sip_test

import (
	"encoding/hex"
	"math"
	"math/bits"
	"slices"
	"strings"
	"testing"

	"hardtack/api"
	"hardtack/sip"
)

const key = "\x00\x01\x02\x03\x04\x05\x06\x07\x08\x09\x0a\x0b\x0c\x0d\x0e\x0f"

// sums are those of key and as many bytes 00 01 .. as stand ahead of each, as bytes: the table that SipHash's authors give.
const sums = `
310e0edd47db6f72 fd67dc93c539f874 5a4fa9d909806c0d 2d7efbd796666785 b7877127e09427cf 8da699cd64557618 cee3fe586e46c9cb 37d1018bf50002ab
6224939a79f5f593 b0e4a90bdf82009e f3b9dd94c5bb5d7a a7ad6b22462fb3f4 fbe50e86bc8f1e75 903d84c02756ea14 eef27a8e90ca23f7 e545be4961ca29a1
db9bc2577fcc2a3f 9447be2cf5e99a69 9cd38d96f0b3c14b bd6179a71dc96dbb 98eea21af25cd6be c7673b2eb0cbf2d0 883ea3e395675393 c8ce5ccd8c030ca8
94af49f6c650adb8 eab8858ade92e1bc f315bb5bb835d817 adcf6b0763612e2f a5c91da7acaa4dde 716595876650a2a6 28ef495c53a387ad 42c341d8fa92d832
ce7cf2722f512771 e37859f94623f3a7 381205bb1ab0e012 ae97a10fd434e015 b4a31508beff4d31 81396229f0907902 4d0cf49ee5d4dcca 5c73336a76d8bf9a
d0a704536ba93e0e 925958fcd6420cad a915c29bc8067318 952b79f3bc0aa6d4 f21df2e41d4535f9 87577519048f53a9 10a56cf5dfcd9adb eb75095ccd986cd0
51a9cb9ecba312e6 96afadfc2ce666c7 72fe52975a4364ee 5a1645b276d592a1 b274cb8ebf87870a 6f9bb4203de7b381 eaecb2a30b22a87f 9924a43cc1315724
bd838d3aafbf8db7 0b1a2a3265d51aea 135079a3231ce660 932b2846e4d70666 e1915f5cb1eca46c f325965ca16d629f 575ff28e60381be5 724506eb4c328a95
`

func unhex(t *testing.T, text string) string {
	t.Helper()
	b, err := hex.DecodeString(text)
	if err != nil {
		t.Fatal(err)
	}
	return string(b)
}

func TestSum(t *testing.T) {
	all := strings.Fields(sums)
	if len(all) != 64 {
		t.Fatalf("there are %d sums", len(all))
	}
	s := ""
	for i, want := range all {
		got, why := sip.Sum(key, s)
		if sip.Bytes(got) != unhex(t, want) || why != api.OK {
			t.Errorf("8.1: Sum of %d bytes = %x, %d, not %s", i, got, why, want)
		}
		s += string([]byte{byte(i)})
	}
	if got, why := sip.Sum(key, s[:15]); got != 0xa129ca6149be45e5 || why != api.OK {
		t.Errorf("8.1: the sum of the example is %x, %d", got, why)
	}
}

func TestSumByOtherKeys(t *testing.T) {
	for _, c := range []struct{ what, key, s, want string }{
		{"nothing, by noughts", strings.Repeat("\x00", 16), "", "d70077739d4b921e"},
		{"all bits", strings.Repeat("\xff", 16), strings.Repeat("\xff", 16), "2e9ad29e85dd271a"},
		{"a text", "0123456789abcdef", "hardtack", "baba6460e51b2c65"},
		{"a server's cookie of RFC 9018", unhex(t, "e5e973e5a6b2a43f48e7dc849e37bfcf"), unhex(t, "2464c4abcf10c957010000005cf79f11c6336464"), "1f8130c3eee29480"},
		{"255 bytes", key, strings.Repeat("a", 255), "4d40f8f94fca87e9"},
		{"256 bytes", key, strings.Repeat("a", 256), "0e3448de38314103"},
		{"257 bytes", key, strings.Repeat("a", 257), "018037d9d2d8d0a5"},
		{"65535 bytes", key, strings.Repeat("a", 65535), "4fb9e9d36b15ee95"},
		{"most bytes", key, strings.Repeat("a", api.MaxBytes), "4ed7734030691869"},
	} {
		got, why := sip.Sum(c.key, c.s)
		if sip.Bytes(got) != unhex(t, c.want) || why != api.OK {
			t.Errorf("8.1: Sum of %s = %x, %d, not %s", c.what, got, why, c.want)
		}
	}
}

func TestSumOfWrong(t *testing.T) {
	long := strings.Repeat("a", api.MaxBytes+1)
	for _, size := range []int{0, 1, 8, 15, 17, 24, 32, 1 << 16} {
		for _, s := range []string{"", "a", long} {
			if got, why := sip.Sum(strings.Repeat("k", size), s); got != 0 || why != api.ErrForm {
				t.Errorf("8.1: Sum by a key of %d bytes, of %d = %x, %d, not ErrForm", size, len(s), got, why)
			}
		}
	}
	for _, s := range []string{long, long + long} {
		if got, why := sip.Sum(key, s); got != 0 || why != api.ErrLong {
			t.Errorf("8.1: Sum of %d bytes = %x, %d, not ErrLong", len(s), got, why)
		}
	}
}

// round is a round as the document says it, step by step.
func round(v0, v1, v2, v3 uint64) (uint64, uint64, uint64, uint64) {
	v0 = v0 + v1
	v1 = bits.RotateLeft64(v1, 13) ^ v0
	v0 = bits.RotateLeft64(v0, 32)
	v2 = v2 + v3
	v3 = bits.RotateLeft64(v3, 16) ^ v2
	v0 = v0 + v3
	v3 = bits.RotateLeft64(v3, 21) ^ v0
	v2 = v2 + v1
	v1 = bits.RotateLeft64(v1, 17) ^ v2
	v2 = bits.RotateLeft64(v2, 32)
	return v0, v1, v2, v3
}

// states are some, of which no two are alike.
func states() [][4]uint64 {
	all := [][4]uint64{{}, {1, 2, 3, 4}, {math.MaxUint64, math.MaxUint64, math.MaxUint64, math.MaxUint64}}
	for i := range 4 {
		for b := range 64 {
			v := [4]uint64{}
			v[i] = 1 << b
			all = append(all, v)
		}
	}
	v := [4]uint64{1, 2, 3, 4}
	for range 1000 {
		v[0], v[1], v[2], v[3] = round(v[0]^5, v[1], v[2], v[3])
		all = append(all, v)
	}
	return all
}

func TestRound(t *testing.T) {
	if got := sip.Round([4]uint64{1, 0, 0, 0}, 1); got != [4]uint64{1 << 32, 0x20001, 1 << 32, 1 << 32} {
		t.Errorf("8.1: Round of 1, 0, 0, 0 = %x", got)
	}
	for _, v := range states() {
		want := v
		for n := range 8 {
			if got := sip.Round(v, n); got != want {
				t.Fatalf("8.1: %d rounds of %x = %x, not %x", n, v, got, want)
			}
			want[0], want[1], want[2], want[3] = round(want[0], want[1], want[2], want[3])
		}
	}
}

func TestRoundsThatAreNotDone(t *testing.T) {
	v := [4]uint64{1, 2, 3, 4}
	for _, n := range []int{0, -1, -64, math.MinInt} {
		if got := sip.Round(v, n); got != v {
			t.Errorf("8.1: %d rounds of %x = %x", n, v, got)
		}
	}
	want := v
	for n := 1; n <= 64; n++ {
		want[0], want[1], want[2], want[3] = round(want[0], want[1], want[2], want[3])
		if got := sip.Round(v, n); got != want {
			t.Fatalf("8.1: %d rounds of %x = %x, not %x", n, v, got, want)
		}
	}
	for _, n := range []int{65, 66, 128, 1 << 40, math.MaxInt} {
		if got := sip.Round(v, n); got != want {
			t.Errorf("8.1: %d rounds of %x = %x, not %x", n, v, got, want)
		}
	}
}

func TestWords(t *testing.T) {
	const bytes = "\x01\x02\x03\x04\x05\x06\x07\x88"
	for _, c := range []struct {
		s    string
		want []uint64
	}{
		{"", []uint64{0}},
		{"a", []uint64{0x0100000000000061}},
		{"\x00", []uint64{0x0100000000000000}},
		{"\xff\xfe", []uint64{0x020000000000feff}},
		{bytes[:7], []uint64{0x0707060504030201}},
		{bytes, []uint64{0x8807060504030201, 0x0800000000000000}},
		{bytes + "\xff", []uint64{0x8807060504030201, 0x09000000000000ff}},
		{bytes + bytes[:7], []uint64{0x8807060504030201, 0x0f07060504030201}},
		{bytes + bytes, []uint64{0x8807060504030201, 0x8807060504030201, 0x1000000000000000}},
	} {
		if got := sip.Words(c.s); !slices.Equal(got, c.want) {
			t.Errorf("8.1: Words(%q) = %x, not %x", c.s, got, c.want)
		}
	}
}

func TestWordsOfMuch(t *testing.T) {
	for _, size := range []int{254, 255, 256, 257, 263, 264, 511, 512, 65535, api.MaxBytes, api.MaxBytes + 1, 1 << 20} {
		s := strings.Repeat("\x55", size)
		var want []uint64
		for range size / 8 {
			want = append(want, 0x5555555555555555)
		}
		rest := uint64(0x5555555555555555)
		for i := size % 8; i < 8; i++ {
			rest &^= 0xff << (8 * i)
		}
		want = append(want, rest+uint64(size%256)*0x0100000000000000)
		if got := sip.Words(s); !slices.Equal(got, want) {
			t.Errorf("8.1: Words of %d bytes are %d, the last %x, not %x", size, len(got), got[len(got)-1:], want[len(want)-1])
		}
	}
}

func TestWordsAreNewMemory(t *testing.T) {
	first := sip.Words("abcdefghi")
	first[0], first[1] = 0, 0
	if got := sip.Words("abcdefghi"); !slices.Equal(got, []uint64{0x6867666564636261, 0x0900000000000069}) {
		t.Errorf("8.1: Words, asked again, = %x", got)
	}
}

func TestBytesAndValue(t *testing.T) {
	for _, c := range []struct {
		n uint64
		s string
	}{
		{0, "\x00\x00\x00\x00\x00\x00\x00\x00"},
		{0x201, "\x01\x02\x00\x00\x00\x00\x00\x00"},
		{0x8807060504030201, "\x01\x02\x03\x04\x05\x06\x07\x88"},
		{1 << 63, "\x00\x00\x00\x00\x00\x00\x00\x80"},
		{math.MaxUint64, "\xff\xff\xff\xff\xff\xff\xff\xff"},
	} {
		if got := sip.Bytes(c.n); got != c.s {
			t.Errorf("8.2: Bytes(%x) = %q, not %q", c.n, got, c.s)
		}
		if got, why := sip.Value(c.s); got != c.n || why != api.OK {
			t.Errorf("8.2: Value(%q) = %x, %d, not %x", c.s, got, why, c.n)
		}
	}
	for b := range 64 {
		if got, why := sip.Value(sip.Bytes(1 << b)); got != 1<<b || why != api.OK {
			t.Errorf("8.2: 1 << %d is read as %x, %d", b, got, why)
		}
	}
}

func TestValueOfWrong(t *testing.T) {
	for _, size := range []int{0, 1, 2, 4, 7, 9, 16, 1 << 16} {
		if got, why := sip.Value(strings.Repeat("\x01", size)); got != 0 || why != api.ErrForm {
			t.Errorf("8.2: Value of %d bytes = %x, %d, not ErrForm", size, got, why)
		}
	}
}

// undo answers the state of which v is a round: that there is one, for each, tells that no two states become one.
func undo(v [4]uint64) [4]uint64 {
	v0, v1, v2, v3 := v[0], v[1], v[2], v[3]
	v2 = bits.RotateLeft64(v2, -32)
	v1 = bits.RotateLeft64(v1^v2, -17)
	v2 -= v1
	v3 = bits.RotateLeft64(v3^v0, -21)
	v0 -= v3
	v3 = bits.RotateLeft64(v3^v2, -16)
	v2 -= v3
	v0 = bits.RotateLeft64(v0, -32)
	v1 = bits.RotateLeft64(v1^v0, -13)
	v0 -= v1
	return [4]uint64{v0, v1, v2, v3}
}

func TestNoTwoStatesBecomeOne(t *testing.T) {
	all := map[[4]uint64]bool{}
	for _, v := range states() {
		got := sip.Round(v, 1)
		if undo(got) != v {
			t.Errorf("8.3: %x is no round of %x alone", got, v)
		}
		if all[got] {
			t.Errorf("8.3: %x is a round of two states", got)
		}
		all[got] = true
	}
}

func TestNoTwoShortTextsHaveOneWord(t *testing.T) {
	all := map[uint64]string{}
	tell := func(s string) {
		w := sip.Words(s)
		if len(w) != 1 {
			t.Fatalf("8.4: %q has %d words", s, len(w))
		}
		if other, twice := all[w[0]]; twice {
			t.Fatalf("8.4: %q and %q have one word", s, other)
		}
		all[w[0]] = s
	}
	tell("")
	for a := range 256 {
		tell(string([]byte{byte(a)}))
		for b := range 256 {
			tell(string([]byte{byte(a), byte(b)}))
		}
	}
	for size := 3; size < 8; size++ {
		tell(strings.Repeat("\x00", size))
		for i := range size {
			for x := 1; x < 256; x++ {
				b := make([]byte, size)
				b[i] = byte(x)
				tell(string(b))
			}
		}
	}
}
