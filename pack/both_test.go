package pack_test

import (
	"math/rand/v2"
	"testing"

	"hardtack/api"
	"hardtack/pack"
)

// anyName draws from few labels, so that rests of names come again and again.
func anyName(draw *rand.Rand) string {
	few := []string{"a", "A", "b", "\x00", "\x01a", "www", "org", "ORG", "\xc0\x00"}
	var labels []string
	for range draw.IntN(5) {
		labels = append(labels, few[draw.IntN(len(few))])
	}
	return wire(labels...)
}

// item is something that is written, and must be read as it was.
type item struct {
	kind int
	n    uint64
	s    string
}

func anyItem(draw *rand.Rand) item {
	it := item{kind: draw.IntN(7), n: draw.Uint64()}
	switch it.kind {
	case 0, 1, 2, 3:
		if width := 1 << it.kind; width < 8 {
			it.n &= 1<<(8*width) - 1
		}
	case 4:
		for range draw.IntN(4) {
			it.s += string([]byte{byte(draw.Uint32())})
		}
	default:
		it.s = anyName(draw)
	}
	return it
}

func (it item) write(w *pack.Writer) {
	switch it.kind {
	case 0, 1, 2, 3:
		w.Num(1<<it.kind, it.n)
	case 4:
		w.Raw(it.s)
	case 5:
		w.Name(it.s)
	case 6:
		w.Full(it.s)
	}
}

func (it item) isNext(r *pack.Reader) bool {
	switch it.kind {
	case 0, 1, 2, 3:
		return r.Num(1<<it.kind) == it.n
	case 4:
		return r.Raw(len(it.s)) == it.s
	}
	return r.Name() == it.s
}

func TestThereAndBack(t *testing.T) {
	draw := rand.New(rand.NewPCG(3, 3))
	for range 2000 {
		w := pack.New(api.MaxBytes)
		var items []item
		var ends []int
		for range draw.IntN(30) {
			it := anyItem(draw)
			it.write(w)
			items, ends = append(items, it), append(ends, w.Len())
		}
		s, why := w.Out()
		if why != api.OK {
			t.Fatalf("3.3: Out() = %d", why)
		}
		r := pack.Open(s)
		for i, it := range items {
			if !it.isNext(r) || r.Bad() || r.At() != ends[i] {
				t.Fatalf("3.3: %v is not read from %q up to %d", it, s, ends[i])
			}
		}
		if r.Left() != 0 {
			t.Fatalf("3.3: %d bytes are left", r.Left())
		}
	}
}

func TestPointersAreNoLonger(t *testing.T) {
	draw := rand.New(rand.NewPCG(3, 4))
	shorter := 0
	for range 2000 {
		short, full := pack.New(api.MaxBytes), pack.New(api.MaxBytes)
		for range 1 + draw.IntN(8) {
			n := anyName(draw)
			was := short.Len()
			short.Name(n)
			full.Full(n)
			if size := short.Len() - was; size > len(n) {
				t.Fatalf("3.3: %q is written as %d bytes", n, size)
			}
		}
		if short.Len() < full.Len() {
			shorter++
		}
	}
	if shorter < 500 {
		t.Errorf("3.3: only %d of 2000 writers have less shorter with pointers", shorter)
	}
}

func TestSameWritesSameBytes(t *testing.T) {
	var was string
	for i := range 20 {
		draw := rand.New(rand.NewPCG(3, 5))
		w := pack.New(api.MaxBytes)
		for range 200 {
			anyItem(draw).write(w)
		}
		s, _ := w.Out()
		if i > 0 && s != was {
			t.Fatal("3.1: the same is written as other bytes")
		}
		was = s
	}
}
