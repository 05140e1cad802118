package record_test

import (
	"math/rand/v2"
	"testing"

	"hardtack/api"
	"hardtack/pack"
	"hardtack/record"
)

func TestThereAndBackByLines(t *testing.T) {
	for _, r := range samples() {
		line, why := record.Line(r)
		if why != api.OK {
			t.Fatalf("5.4: Line(%#v) = %d", r, why)
		}
		if got, why := record.Parse(line); got != r || why != api.OK {
			t.Errorf("5.4: %#v is read from %q as %#v, %d", r, line, got, why)
		}
	}
}

func TestThereAndBackByBytes(t *testing.T) {
	draw := rand.New(rand.NewPCG(5, 4))
	all := samples()
	for range 500 {
		w := pack.New(api.MaxBytes)
		var took []api.RR
		var ends []int
		for range 1 + draw.IntN(8) {
			r := all[draw.IntN(len(all))]
			if why := record.Write(w, r); why != api.OK {
				t.Fatalf("5.4: Write(%#v) = %d", r, why)
			}
			took, ends = append(took, r), append(ends, w.Len())
		}
		s, why := w.Out()
		if why != api.OK {
			t.Fatalf("5.4: Out() = %d", why)
		}
		r := pack.Open(s)
		for i, want := range took {
			if got, why := record.Read(r); got != want || why != api.OK || r.At() != ends[i] {
				t.Fatalf("5.4: %#v is read as %#v, %d", want, got, why)
			}
		}
	}
}

// samples are right records of all shapes.
func samples() []api.RR {
	all := ordered()
	for _, c := range right() {
		all = append(all, c.r)
	}
	return all
}

func TestWhatIsReadIsRight(t *testing.T) {
	draw := rand.New(rand.NewPCG(5, 5))
	few := "\x00\x00\x00\x00\x00\x01\x02\x04\x05aA\xc0\x29\x80"
	met := 0
	for range 100000 {
		var s []byte
		for range 24 {
			s = append(s, few[draw.IntN(len(few))])
		}
		r := pack.Open(string(s))
		r.Raw(draw.IntN(4))
		x, why := record.Read(r)
		switch {
		case why == api.OK:
			met++
			if record.Check(x) != api.OK || r.Bad() {
				t.Fatalf("5.4: of %q is read %#v, that is not right", s, x)
			}
		case x != (api.RR{}), why == api.ErrShort && !r.Bad(), why == api.ErrCode && r.Bad(), why != api.ErrShort && why != api.ErrCode:
			t.Fatalf("5.2: Read of %q = %#v, %d, %v", s, x, why, r.Bad())
		}
	}
	if met < 1000 {
		t.Errorf("5.4: only %d were read", met)
	}
}
