package keyed_test

import (
	"math/rand/v2"
	"slices"
	"strconv"
	"testing"

	"hardtack/api"
	"hardtack/keyed"
)

// pairs are keys and texts of which some begin or end alike.
func pairs() [][2]string {
	var all [][2]string
	for _, k := range []string{key, other, "\x00" + key[1:], key[:15] + "\x00"} {
		for _, s := range []string{"", "a", "b", "aa", "\x00", "a\x00", "f", key} {
			all = append(all, [2]string{k, s})
		}
	}
	return all
}

// sum is the sum of a pair that has one.
func sum(t *testing.T, h api.Hash, p [2]string) uint64 {
	t.Helper()
	n, why := keyed.Of(h, p[0], p[1])
	if why != api.OK {
		t.Fatalf("9.1: there is no sum of %q: %d", p, why)
	}
	return n
}

func TestAnswersAreNewMemory(t *testing.T) {
	room := append(make([]api.Sum, 0, 9), api.Sum{Key: key, Text: "a", N: 7})
	h := table(true, room...)
	first, _ := keyed.Put(h, key, "b", 8)
	second, _ := keyed.Put(h, key, "c", 9)
	if !slices.Equal(first.Table, []api.Sum{{Key: key, Text: "a", N: 7}, {Key: key, Text: "b", N: 8}}) {
		t.Errorf("9.3: a second Put to a hash changed what the first one answered: %v", first.Table)
	}
	if behind := room[:2][1]; behind != (api.Sum{}) {
		t.Errorf("9.3: Put wrote behind its argument: %v", behind)
	}
	first.Table[0].N = 1
	if h.Table[0].N != 7 || second.Table[0].N != 7 {
		t.Errorf("9.3: Put's answer is the memory of its argument, or of another answer")
	}
	h.Table[0].N = 2
	if second.Table[0].N != 7 {
		t.Errorf("9.3: Put's answer is the memory of its argument")
	}
}

func TestArgumentsStay(t *testing.T) {
	h := some(true)
	was := slices.Clone(h.Table)
	keyed.Check(h)
	keyed.Apart(h)
	keyed.Of(h, key, "a")
	keyed.Known(h, key, "a")
	keyed.Put(h, key, "a", 1)
	keyed.Put(h, key, "b", 1)
	if !h.Ideal || !slices.Equal(h.Table, was) {
		t.Errorf("9.3: a call changed its argument: %v", h)
	}
}

func TestAsItWasPut(t *testing.T) {
	r := rand.New(rand.NewPCG(9, 4))
	all := pairs()
	for round := range 200 {
		h := api.Hash{Ideal: true}
		want := map[[2]string]uint64{}
		for range r.IntN(2 * len(all)) {
			p, n := all[r.IntN(len(all))], r.Uint64N(6)
			_, there := want[p]
			more, why := keyed.Put(h, p[0], p[1], n)
			if there != (why == api.ErrTwice) || there == (why == api.OK) {
				t.Fatalf("9.2: Put of %q, there: %t, = %d", p, there, why)
			}
			if there {
				continue
			}
			h, want[p] = more, n
			for _, q := range all {
				_, is := want[q]
				if got := sum(t, h, q); got != want[q] || keyed.Known(h, q[0], q[1]) != is {
					t.Fatalf("9.4: round %d: %q, behind a Put of %q, is %d, not %d", round, q, p, got, want[q])
				}
			}
			if why := keyed.Check(h); why != api.OK {
				t.Fatalf("9.4: what was put together is not right: %d", why)
			}
		}
	}
}

func TestApartAsItSays(t *testing.T) {
	r := rand.New(rand.NewPCG(9, 5))
	all := pairs()
	count := 0
	for range 2000 {
		h := api.Hash{Ideal: true}
		for i := range r.IntN(9) {
			p := all[r.IntN(len(all))]
			h.Table = append(h.Table, api.Sum{Key: p[0], Text: p[1], N: uint64(i) + r.Uint64N(3)})
		}
		if keyed.Check(h) != api.OK || len(h.Table) < 2 {
			continue
		}
		if keyed.Apart(h) {
			count++
		}
		if got, want := keyed.Apart(h), tellsApart(t, h, all); got != want {
			t.Fatalf("9.5: Apart = %t of %v", got, h.Table)
		}
	}
	if count < 50 {
		t.Errorf("only %d hashes were apart", count)
	}
}

// tellsApart tells whether two unlike pairs have one sum just if there is an entry of neither.
func tellsApart(t *testing.T, h api.Hash, all [][2]string) bool {
	for i, p := range all {
		for _, q := range all[:i] {
			one := sum(t, h, p) == sum(t, h, q)
			if one != (!keyed.Known(h, p[0], p[1]) && !keyed.Known(h, q[0], q[1])) {
				return false
			}
		}
	}
	return true
}

func TestPutUntilItIsFull(t *testing.T) {
	h := api.Hash{}
	for i := range api.MaxSums {
		more, why := keyed.Put(h, key, strconv.Itoa(i), uint64(i))
		if why != api.OK {
			t.Fatalf("9.2: Put to %d entries = %d", i, why)
		}
		h = more
	}
	if _, why := keyed.Put(h, key, "a", 1); why != api.ErrFull {
		t.Errorf("9.2: Put to most entries = %d, not ErrFull", why)
	}
	if why := keyed.Check(h); why != api.OK {
		t.Errorf("9.1: Check of most entries = %d", why)
	}
	for i := range api.MaxSums {
		if got := sum(t, h, [2]string{key, strconv.Itoa(i)}); got != uint64(i) {
			t.Fatalf("9.4: the sum %d is %d", i, got)
		}
	}
}
