package keyed_test

import (
	"slices"
	"strconv"
	"strings"
	"testing"

	"hardtack/api"
	"hardtack/keyed"
	"hardtack/sip"
)

const (
	key   = "0123456789abcdef"
	other = "0123456789abcdeF"
	most  = 1<<64 - 1
)

var long = strings.Repeat("a", api.MaxBytes+1)

// table is a hash of these entries, of which the sums are told if ideal.
func table(ideal bool, all ...api.Sum) api.Hash { return api.Hash{Ideal: ideal, Table: all} }

// entries are so many, of which each has a text and a sum of its own.
func entries(many int) []api.Sum {
	var all []api.Sum
	for i := range many {
		all = append(all, api.Sum{Key: key, Text: strconv.Itoa(i), N: uint64(i) + 1})
	}
	return all
}

// reckoned is sip's sum, of a key and a text that have one.
func reckoned(t *testing.T, k, s string) uint64 {
	t.Helper()
	n, why := sip.Sum(k, s)
	if why != api.OK {
		t.Fatalf("there is no sum of %q, %d bytes", k, len(s))
	}
	return n
}

// example is a table that is right or not, and apart or not.
type example struct {
	what         string
	all          []api.Sum
	right, apart bool
}

func examples() []example {
	full, over := entries(api.MaxSums), entries(api.MaxSums+1)
	ends := slices.Clone(full)
	ends[api.MaxSums-1].Text = ends[0].Text
	alike := slices.Clone(full)
	alike[api.MaxSums-1].N = alike[0].N
	return []example{
		{"no entry", nil, true, true},
		{"a list without an entry", []api.Sum{}, true, true},
		{"one", []api.Sum{{Key: key, Text: "a", N: 7}}, true, true},
		{"one of no text", []api.Sum{{Key: key, Text: "", N: 7}}, true, true},
		{"one of a text that has no sum", []api.Sum{{Key: key, Text: long, N: 7}}, true, true},
		{"the greatest sum", []api.Sum{{Key: key, Text: "a", N: most}, {Key: key, Text: "b", N: 1}}, true, true},
		{"a sum of 0", []api.Sum{{Key: key, Text: "a", N: 0}}, true, false},
		{"a sum of 0 among others", []api.Sum{{Key: key, Text: "a", N: 1}, {Key: key, Text: "b", N: 0}, {Key: key, Text: "c", N: 2}}, true, false},
		{"two sums of 0", []api.Sum{{Key: key, Text: "a", N: 0}, {Key: key, Text: "b", N: 0}}, true, false},
		{"two texts", []api.Sum{{Key: key, Text: "a", N: 7}, {Key: key, Text: "b", N: 8}}, true, true},
		{"two texts of one sum", []api.Sum{{Key: key, Text: "a", N: 7}, {Key: key, Text: "b", N: 7}}, true, false},
		{"two keys", []api.Sum{{Key: key, Text: "a", N: 7}, {Key: other, Text: "a", N: 8}}, true, true},
		{"two keys of one sum", []api.Sum{{Key: key, Text: "a", N: 7}, {Key: other, Text: "a", N: 7}}, true, false},
		{"two sums that are alike in 32 bits", []api.Sum{{Key: key, Text: "a", N: 7}, {Key: key, Text: "b", N: 1<<32 + 7}}, true, true},
		{"one sum, but not side by side", []api.Sum{{Key: key, Text: "a", N: 7}, {Key: key, Text: "b", N: 8}, {Key: key, Text: "c", N: 7}}, true, false},
		{"a byte of 0 in keys and texts", []api.Sum{{Key: key[1:] + "\x00", Text: "a", N: 7}, {Key: key[1:] + "b", Text: "\x00a", N: 8}}, true, true},
		{"keys that are zero", []api.Sum{{Key: strings.Repeat("\x00", 16), Text: "", N: 1}}, true, true},
		{"most entries", full, true, true},
		{"most entries, the last of the first one's sum", alike, true, false},

		{"an entry of nothing", []api.Sum{{}}, false, false},
		{"no key", []api.Sum{{Key: "", Text: "a", N: 7}}, false, false},
		{"a key of 15 bytes", []api.Sum{{Key: key[:15], Text: "a", N: 7}}, false, false},
		{"a key of 17 bytes", []api.Sum{{Key: key + "0", Text: "a", N: 7}}, false, false},
		{"a key of 32 bytes", []api.Sum{{Key: key + key, Text: "a", N: 7}}, false, false},
		{"a key of 17 bytes behind one of 16", []api.Sum{{Key: key, Text: "a", N: 7}, {Key: key + "b", Text: "a", N: 8}}, false, false},
		{"a key of 15 bytes ahead of one of 16", []api.Sum{{Key: key[:15], Text: "a", N: 7}, {Key: key, Text: "a", N: 8}}, false, false},
		{"an entry twice", []api.Sum{{Key: key, Text: "a", N: 7}, {Key: key, Text: "a", N: 7}}, false, false},
		{"a key and a text twice", []api.Sum{{Key: key, Text: "a", N: 7}, {Key: key, Text: "a", N: 8}}, false, false},
		{"no text twice", []api.Sum{{Key: key, Text: "", N: 7}, {Key: key, Text: "", N: 8}}, false, false},
		{"twice, but not side by side", []api.Sum{{Key: key, Text: "a", N: 7}, {Key: key, Text: "b", N: 8}, {Key: other, Text: "a", N: 9}, {Key: key, Text: "a", N: 10}}, false, false},
		{"most entries, the last like the first", ends, false, false},
		{"one entry too many", over, false, false},
	}
}

func TestCheck(t *testing.T) {
	for _, c := range examples() {
		want := api.OK
		if !c.right {
			want = api.ErrForm
		}
		for _, ideal := range []bool{false, true} {
			if got := keyed.Check(table(ideal, c.all...)); got != want {
				t.Errorf("9.1: Check of %s (Ideal: %t) = %d, not %d", c.what, ideal, got, want)
			}
		}
	}
}

func TestApart(t *testing.T) {
	for _, c := range examples() {
		for _, ideal := range []bool{false, true} {
			if got := keyed.Apart(table(ideal, c.all...)); got != c.apart {
				t.Errorf("9.1: Apart of %s (Ideal: %t) = %t", c.what, ideal, got)
			}
		}
	}
}

// some is a hash with several entries: not right, as one is there twice and one has another key's length.
func some(ideal bool) api.Hash {
	return table(ideal, api.Sum{Key: key, Text: "a", N: 7}, api.Sum{Key: other, Text: "a", N: 8}, api.Sum{Key: key, Text: "", N: most},
		api.Sum{Key: key, Text: "a", N: 9}, api.Sum{Key: "k", Text: "a", N: 10}, api.Sum{Key: key, Text: "0", N: 0}, api.Sum{Key: key, Text: long, N: 11},
		api.Sum{Key: key, Text: "0", N: 12})
}

func TestOf(t *testing.T) {
	for _, c := range []struct {
		key, s string
		want   uint64
	}{
		{key, "a", 7},
		{other, "a", 8},
		{key, "", most},
		{key, "0", 0},
		{key, "b", 0},
		{key, "A", 0},
		{key, "aa", 0},
		{key, "a\x00", 0},
		{other, "", 0},
		{strings.ToUpper(key), "a", 0},
		{key, long[1:], 0},
	} {
		if got, why := keyed.Of(some(true), c.key, c.s); got != c.want || why != api.OK {
			t.Errorf("9.1: Of(%q, %.9q) by a table = %d, %d, not %d", c.key, c.s, got, why, c.want)
		}
		if got, why := keyed.Of(table(true), c.key, c.s); got != 0 || why != api.OK {
			t.Errorf("9.1: Of(%q, %.9q) by an empty table = %d, %d, not 0", c.key, c.s, got, why)
		}
		want := reckoned(t, c.key, c.s)
		for _, h := range []api.Hash{some(false), {}} {
			if got, why := keyed.Of(h, c.key, c.s); got != want || why != api.OK {
				t.Errorf("9.1: Of(%q, %.9q) that is reckoned = %x, %d, not %x", c.key, c.s, got, why, want)
			}
		}
	}
}

func TestOfByTheWholeTable(t *testing.T) {
	h := table(true, entries(api.MaxSums+1)...)
	for _, i := range []int{0, 1, api.MaxSums - 1, api.MaxSums} {
		if got, why := keyed.Of(h, key, strconv.Itoa(i)); got != uint64(i)+1 || why != api.OK {
			t.Errorf("9.1: Of the entry %d = %d, %d", i, got, why)
		}
	}
}

func TestOfWrong(t *testing.T) {
	for _, c := range []struct {
		key, s string
		want   api.Errno
	}{
		{"", "a", api.ErrForm},
		{"k", "a", api.ErrForm},
		{key[:15], "a", api.ErrForm},
		{key + "0", "a", api.ErrForm},
		{"k", long, api.ErrForm},
		{key, long, api.ErrLong},
		{other, long + "a", api.ErrLong},
	} {
		for _, h := range []api.Hash{some(true), some(false), {}, {Ideal: true}} {
			if got, why := keyed.Of(h, c.key, c.s); got != 0 || why != c.want {
				t.Errorf("9.1: Of(%q, %d bytes) = %x, %d, not %d", c.key, len(c.s), got, why, c.want)
			}
		}
	}
}

func TestKnown(t *testing.T) {
	for _, ideal := range []bool{false, true} {
		h := some(ideal)
		for _, e := range h.Table {
			if !keyed.Known(h, e.Key, e.Text) {
				t.Errorf("9.1: %q, %.9q is not known (Ideal: %t)", e.Key, e.Text, ideal)
			}
			if keyed.Known(api.Hash{Ideal: ideal}, e.Key, e.Text) {
				t.Errorf("9.1: %q, %.9q is known of an empty table (Ideal: %t)", e.Key, e.Text, ideal)
			}
		}
		for _, c := range [][2]string{{key, "b"}, {key, "A"}, {key, "aa"}, {other, ""}, {other, "0"}, {"k", ""}, {"", "a"}, {"", ""}, {key[:15], "a"}, {key + "a", ""}, {key, long[1:]}} {
			if keyed.Known(h, c[0], c[1]) {
				t.Errorf("9.1: %q, %.9q is known (Ideal: %t)", c[0], c[1], ideal)
			}
		}
	}
}

func TestPut(t *testing.T) {
	for _, c := range []struct {
		what   string
		h      api.Hash
		key, s string
		n      uint64
	}{
		{"the first one", api.Hash{}, key, "a", 7},
		{"the first one of a table", table(true), key, "a", 7},
		{"a second one", table(true, api.Sum{Key: key, Text: "b", N: 8}), key, "a", 7},
		{"one of another one's sum", table(true, api.Sum{Key: key, Text: "b", N: 7}), key, "a", 7},
		{"one of another key", table(true, api.Sum{Key: other, Text: "a", N: 8}), key, "a", 7},
		{"no text", table(true, api.Sum{Key: key, Text: "b", N: 8}), key, "", most},
		{"a sum of 0", table(true, api.Sum{Key: key, Text: "b", N: 8}), key, "a", 0},
		{"the longest text", api.Hash{}, key, long[1:], 7},
		{"one beside a table that is not asked", table(false, api.Sum{Key: key, Text: "b", N: 8}), key, "a", 7},
		{"one to what is not right", some(true), key, "b", 7},
		{"the last one", table(true, entries(api.MaxSums-1)...), key, "a", 7},
	} {
		want := append(slices.Clone(c.h.Table), api.Sum{Key: c.key, Text: c.s, N: c.n})
		got, why := keyed.Put(c.h, c.key, c.s, c.n)
		if why != api.OK || !got.Ideal || !slices.Equal(got.Table, want) {
			t.Errorf("9.2: Put of %s = %t, %d entries, %d", c.what, got.Ideal, len(got.Table), why)
		}
		if n, why := keyed.Of(got, c.key, c.s); n != c.n || why != api.OK {
			t.Errorf("9.4: what was put, %s, is %d, %d, not %d", c.what, n, why, c.n)
		}
	}
}

func TestPutWrong(t *testing.T) {
	full, over := table(true, entries(api.MaxSums)...), table(true, entries(api.MaxSums+1)...)
	for _, c := range []struct {
		what   string
		h      api.Hash
		key, s string
		want   api.Errno
	}{
		{"no key", api.Hash{}, "", "a", api.ErrForm},
		{"a key of 15 bytes", api.Hash{}, key[:15], "a", api.ErrForm},
		{"a key of 17 bytes", api.Hash{}, key + "a", "a", api.ErrForm},
		{"a short key of an entry", some(true), "k", "a", api.ErrForm},
		{"a short key, and a text that is too long", api.Hash{}, "k", long, api.ErrForm},
		{"a short key to a full table", full, "k", "a", api.ErrForm},
		{"a text that is too long", api.Hash{}, key, long, api.ErrLong},
		{"such a text of an entry", some(true), key, long, api.ErrLong},
		{"such a text to a full table", full, key, long, api.ErrLong},
		{"an entry that is there", table(true, api.Sum{Key: key, Text: "a", N: 8}), key, "a", api.ErrTwice},
		{"the same entry", table(true, api.Sum{Key: key, Text: "a", N: 7}), key, "a", api.ErrTwice},
		{"an entry of a table that is not asked", table(false, api.Sum{Key: key, Text: "a", N: 8}), key, "a", api.ErrTwice},
		{"an entry that is there twice", some(true), key, "a", api.ErrTwice},
		{"the first entry of a full table", full, key, "0", api.ErrTwice},
		{"the last entry of a full table", full, key, strconv.Itoa(api.MaxSums - 1), api.ErrTwice},
		{"an entry of a table that has too many", over, key, strconv.Itoa(api.MaxSums), api.ErrTwice},
		{"another one to a full table", full, key, "a", api.ErrFull},
		{"another one to a full table that is not asked", api.Hash{Table: full.Table}, key, "a", api.ErrFull},
		{"another key to a full table", full, other, "0", api.ErrFull},
		{"another one to a table that has too many", over, key, "a", api.ErrFull},
	} {
		got, why := keyed.Put(c.h, c.key, c.s, 7)
		if why != c.want || got.Ideal || len(got.Table) != 0 {
			t.Errorf("9.2: Put of %s = %t, %d entries, %d, not %d", c.what, got.Ideal, len(got.Table), why, c.want)
		}
	}
}
