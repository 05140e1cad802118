package rdata_test

import (
	"math"
	"math/rand/v2"
	"strings"
	"testing"

	"hardtack/api"
	"hardtack/pack"
	"hardtack/rdata"
)

func TestWrite(t *testing.T) {
	const ahead = "\x03www\x02Ex\x03ORG\x00"
	for _, c := range []struct {
		what string
		t    api.RType
		data string
		want string
	}{
		{"NS", api.TypeNS, "\x01b" + ahead, "\x01b\xc0\x00"},
		{"NS of that name", api.TypeNS, ahead, "\xc0\x00"},
		{"NS of the root", api.TypeNS, "\x00", "\x00"},
		{"NS in small letters", api.TypeNS, org2, org2},
		{"CNAME", api.TypeCNAME, "\x01b\x03ORG\x00", "\x01b\xc0\x07"},
		{"PTR", api.TypePTR, "\x02Ex\x03ORG\x00", "\xc0\x04"},
		{"MX", api.TypeMX, "\x12\x34\x01m" + ahead, "\x12\x34\x01m\xc0\x00"},
		{"SOA", api.TypeSOA, "\x01n" + ahead + "\x01h\x01n" + ahead + tail, "\x01n\xc0\x00\x01h\xc0\x0c" + tail},
		{"SOA of one name twice", api.TypeSOA, "\x01n\x00\x01n\x00" + tail, "\x01n\x00\xc0\x0c" + tail},
		{"SRV", api.TypeSRV, "\x00\x01\x00\x02\x00\x03" + ahead, "\x00\x01\x00\x02\x00\x03" + ahead},
		{"A", api.TypeA, "\x01a\x00\x00", "\x01a\x00\x00"},
		{"AAAA", api.TypeAAAA, "0123456789abcdef", "0123456789abcdef"},
		{"TXT", api.TypeTXT, text("ab") + text(""), text("ab") + text("")},
		{"what looks like a name", 99, ahead, ahead},
		{"no bytes", 99, "", ""},
	} {
		w := pack.New(1000)
		w.Name(ahead)
		if why := rdata.Write(w, c.t, c.data); why != api.OK {
			t.Errorf("4.2: Write of %s = %d", c.what, why)
		}
		if got, why := w.Out(); got != ahead+c.want || why != api.OK {
			t.Errorf("4.2: %s is written as %q, %d, not %q", c.what, got, why, ahead+c.want)
		}
	}
}

func TestNamesOfSrvArePointedTo(t *testing.T) {
	w := pack.New(1000)
	rdata.Write(w, api.TypeSRV, "\x00\x01\x00\x02\x00\x03\x01a\x03org\x00")
	rdata.Write(w, api.TypeNS, "\x03org\x00")
	if got, _ := w.Out(); got != "\x00\x01\x00\x02\x00\x03\x01a\x03org\x00\xc0\x08" {
		t.Errorf("4.2: SRV, and NS behind, are written as %q", got)
	}
}

func TestBytesOfOtherTypesAreNotPointedTo(t *testing.T) {
	w := pack.New(1000)
	rdata.Write(w, 99, a1)
	rdata.Write(w, api.TypeNS, a1)
	if got, _ := w.Out(); got != a1+a1 {
		t.Errorf("4.2: other data, and NS behind, are written as %q", got)
	}
}

func TestWriteWrong(t *testing.T) {
	for _, d := range wrong() {
		w := pack.New(1 << 21)
		w.Raw("!")
		if why := rdata.Write(w, d.t, d.data); why != api.ErrForm {
			t.Errorf("4.2: Write(%d) of %s = %d, not ErrForm", d.t, d.what, why)
		}
		if got, why := w.Out(); got != "!" || why != api.OK {
			t.Errorf("4.2: Write(%d) of %s wrote %q, %d", d.t, d.what, got, why)
		}
	}
}

func TestWriteWithoutRoom(t *testing.T) {
	for _, d := range right() {
		if d.data == "" {
			continue
		}
		w := pack.New(len(d.data))
		if why := rdata.Write(w, d.t, d.data); why != api.OK {
			t.Errorf("4.2: Write(%d) of %s = %d", d.t, d.what, why)
		}
		size := w.Len()
		w = pack.New(size - 1)
		if why := rdata.Write(w, d.t, d.data); why != api.OK {
			t.Errorf("4.2: Write(%d) of %s without room = %d", d.t, d.what, why)
		}
		if _, why := w.Out(); why != api.ErrLong {
			t.Errorf("4.2: %s without room: Out() = %d", d.what, why)
		}
	}
}

// ahead are bytes that data that are read may point to: a name at 2, and a pointer to a part of it at 9.
const ahead = "!!\x01A\x03org\x00\xc0\x04"

func TestRead(t *testing.T) {
	for _, c := range []struct {
		what string
		t    api.RType
		wire string
		want string
	}{
		{"NS", api.TypeNS, "\x01b\xc0\x02", "\x01b\x01A\x03org\x00"},
		{"NS by two pointers", api.TypeNS, "\x01b\xc0\x09", "\x01b\x03org\x00"},
		{"NS, a pointer alone", api.TypeNS, "\xc0\x02", "\x01A\x03org\x00"},
		{"NS without pointers", api.TypeNS, a1, a1},
		{"CNAME", api.TypeCNAME, "\xc0\x04", "\x03org\x00"},
		{"PTR", api.TypePTR, "\xc0\x08", "\x00"},
		{"MX", api.TypeMX, "\xc0\x04\x01m\xc0\x04", "\xc0\x04\x01m\x03org\x00"},
		{"SRV", api.TypeSRV, "\x00\x01\x00\x02\x00\x03\x01s\xc0\x02", "\x00\x01\x00\x02\x00\x03\x01s\x01A\x03org\x00"},
		{"SRV without pointers", api.TypeSRV, "\x00\x01\x00\x02\x00\x03" + org, "\x00\x01\x00\x02\x00\x03" + org},
		{"SOA", api.TypeSOA, "\x01n\xc0\x02\x01h\xc0\x0b" + tail, "\x01n\x01A\x03org\x00\x01h\x01n\x01A\x03org\x00" + tail},
		{"A", api.TypeA, "\xc0\x04\xc0\x04", "\xc0\x04\xc0\x04"},
		{"AAAA", api.TypeAAAA, "0123456789abcdef", "0123456789abcdef"},
		{"TXT", api.TypeTXT, text("\xc0\x04") + text(""), text("\xc0\x04") + text("")},
		{"what looks like a pointer", 99, "\xc0\x04", "\xc0\x04"},
		{"no bytes", 99, "", ""},
	} {
		r := pack.Open(ahead + c.wire + "behind")
		r.Raw(len(ahead))
		if got, why := rdata.Read(r, c.t, len(c.wire)); got != c.want || why != api.OK {
			t.Errorf("4.2: Read of %s = %q, %d, not %q", c.what, got, why, c.want)
		}
		if got := r.Raw(6); got != "behind" || r.Bad() {
			t.Errorf("4.2: behind %s stands %q", c.what, got)
		}
	}
}

func TestReadOfNoRightData(t *testing.T) {
	type raw struct {
		what string
		t    api.RType
		wire string
	}
	list := []raw{
		{"NS, a pointer to itself", api.TypeNS, "\xc0\x0b"},
		{"NS, a pointer forth", api.TypeNS, "\xc0\x0c\x00"},
		{"NS that goes on behind", api.TypeNS, "\x01b"},
		{"NS, half a pointer", api.TypeNS, "\x01b\xc0"},
		{"NS, something behind the pointer", api.TypeNS, "\xc0\x04\x00"},
		{"NS, nothing", api.TypeNS, ""},
		{"MX, a number alone", api.TypeMX, "\x00\x01"},
		{"MX, something behind", api.TypeMX, "\x00\x01\xc0\x04\x00"},
		{"SRV, two numbers", api.TypeSRV, "\x00\x01\x00\x02\xc0\x04"},
		{"SOA, a byte too few", api.TypeSOA, "\xc0\x04\xc0\x04" + tail[1:]},
		{"SOA, a byte too many", api.TypeSOA, "\xc0\x04\xc0\x04" + tail + "!"},
		{"SOA, one name", api.TypeSOA, "\xc0\x04" + tail},
		{"TXT, nothing", api.TypeTXT, ""},
		{"TXT that goes on behind", api.TypeTXT, "\x03ab"},
		{"A, nothing", api.TypeA, ""},
		{"too long", 99, strings.Repeat("a", api.MaxData+1)},
		{"TXT, too long", api.TypeTXT, strings.Repeat("\x00", api.MaxData+1)},
	}
	for _, d := range wrong() {
		if !strings.Contains(d.what, "a pointer") {
			list = append(list, raw{d.what, d.t, d.data})
		}
	}
	for _, c := range list {
		r := pack.Open(ahead + c.wire + "\x00ehind")
		r.Raw(len(ahead))
		if got, why := rdata.Read(r, c.t, len(c.wire)); got != "" || why != api.ErrCode {
			t.Errorf("4.2: Read(%d) of %s = %q, %d, not ErrCode", c.t, c.what, got, why)
		}
		if got := r.Raw(6); got != "\x00ehind" || r.Bad() || r.Left() != 0 {
			t.Errorf("4.2: behind %s stands %q", c.what, got)
		}
	}
}

func TestReadTooLongByPointers(t *testing.T) {
	name := name255("q")
	r := pack.Open(name + "\x01a\xc0\x00")
	r.Raw(len(name))
	if got, why := rdata.Read(r, api.TypeNS, 4); got != "" || why != api.ErrCode || r.Bad() {
		t.Errorf("4.2: Read of a name of 257 bytes = %q, %d", got, why)
	}
}

func TestReadShort(t *testing.T) {
	for _, kind := range []api.RType{api.TypeA, api.TypeNS, api.TypeTXT, 99, 0} {
		for _, n := range []int{-1, math.MinInt, 5, 6, math.MaxInt} {
			r := pack.Open("!\x03abc")
			r.Raw(1)
			if got, why := rdata.Read(r, kind, n); got != "" || why != api.ErrShort || !r.Bad() {
				t.Errorf("4.2: Read(%d) of %d bytes of 4 = %q, %d, %v", kind, n, got, why, r.Bad())
			}
			if got, why := rdata.Read(r, kind, 0); got != "" || why != api.ErrShort || !r.Bad() {
				t.Errorf("4.2: Read(%d) with a bad reader = %q, %d", kind, got, why)
			}
		}
	}
}

func TestThereAndBack(t *testing.T) {
	draw := rand.New(rand.NewPCG(4, 3))
	all := right()
	for range 500 {
		w := pack.New(api.MaxBytes)
		var took []datum
		var sizes []int
		for range 1 + draw.IntN(8) {
			d := all[draw.IntN(len(all))]
			was := w.Len()
			if why := rdata.Write(w, d.t, d.data); why != api.OK {
				t.Fatalf("4.3: Write(%d) of %s = %d", d.t, d.what, why)
			}
			took, sizes = append(took, d), append(sizes, w.Len()-was)
		}
		s, why := w.Out()
		if why != api.OK {
			t.Fatalf("4.3: Out() = %d", why)
		}
		r := pack.Open(s)
		for i, d := range took {
			if got, why := rdata.Read(r, d.t, sizes[i]); got != d.data || why != api.OK {
				t.Fatalf("4.3: %s (%d) is read as %q, %d", d.what, d.t, got, why)
			}
		}
	}
}

func TestWhatIsReadIsRight(t *testing.T) {
	draw := rand.New(rand.NewPCG(4, 4))
	few := "\x00\x00\x01\x02\x03aA\xc0\xc0\x04\x14"
	types := []api.RType{api.TypeA, api.TypeNS, api.TypeMX, api.TypeSRV, api.TypeSOA, api.TypeTXT, api.TypeAAAA, 99}
	met := 0
	for range 50000 {
		var s []byte
		for range 40 {
			s = append(s, few[draw.IntN(len(few))])
		}
		kind := types[draw.IntN(len(types))]
		r := pack.Open(string(s))
		r.Raw(draw.IntN(20))
		data, why := rdata.Read(r, kind, draw.IntN(10))
		if r.Bad() {
			t.Fatalf("4.2: the reader of %q is bad", s)
		}
		if why != api.OK {
			continue
		}
		met++
		if rdata.Check(kind, data) != api.OK {
			t.Fatalf("4.3: of %q are read %q, that are not right for %d", s, data, kind)
		}
	}
	if met < 1000 {
		t.Errorf("4.3: only %d were read", met)
	}
}
