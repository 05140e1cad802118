package message_test

import (
	"math/rand/v2"
	"testing"

	"hardtack/api"
	"hardtack/message"
)

func anyOf[T any](draw *rand.Rand, l ...T) T { return l[draw.IntN(len(l))] }

func anyName(draw *rand.Rand) string {
	return anyOf(draw, root, org, "\x03ORG\x00", wwwEx, "\x01a"+wwwEx, "\x01b\x03org\x00", "\x01\x00\x00", "\x02\xc0\x0c\x00")
}

func anyRecord(draw *rand.Rand) api.RR {
	r := api.RR{Name: anyName(draw), Class: uint16(draw.Uint32()), TTL: uint32(draw.Uint64N(api.MaxTTL + 1))}
	r.Type = anyOf(draw, api.TypeA, api.TypeNS, api.TypeSOA, api.TypeMX, api.TypeSRV, api.TypeTXT, api.TypeOPT, 99)
	switch r.Type {
	case api.TypeA:
		r.Data = "\x01\x02\xc0\x0c"
	case api.TypeNS:
		r.Data = anyName(draw)
	case api.TypeSOA:
		r.Data = anyName(draw) + anyName(draw) + tail
	case api.TypeMX:
		r.Data = "\x00\x05" + anyName(draw)
	case api.TypeSRV:
		r.Data = "\x00\x01\x00\x02\x00\x03" + anyName(draw)
	case api.TypeTXT:
		r.Data = anyOf(draw, "\x00", "\x02\xc0\x0c", "\x01a\x01B")
	case api.TypeOPT:
		r.TTL = draw.Uint32()
	default:
		r.Data = anyOf(draw, "", "\xc0\x0c", wwwEx)
	}
	return r
}

func anyMessage(draw *rand.Rand) api.Msg {
	m := api.Msg{Id: uint16(draw.Uint32()), Bits: uint16(draw.Uint32())}
	for range draw.IntN(3) {
		m.Asks = append(m.Asks, api.Question{Name: anyName(draw), Type: api.RType(draw.Uint32()), Class: uint16(draw.Uint32())})
	}
	for _, section := range []*[]api.RR{&m.Says, &m.Heads, &m.Extra} {
		for range draw.IntN(5) {
			*section = append(*section, anyRecord(draw))
		}
	}
	return m
}

func TestThereAndBack(t *testing.T) {
	draw := rand.New(rand.NewPCG(6, 4))
	for range 3000 {
		m := anyMessage(draw)
		s, why := message.Write(m, api.MaxBytes)
		if why != api.OK {
			t.Fatalf("6.4: Write(%v) = %d", m, why)
		}
		if got, why := message.Read(s); !same(got, m) || why != api.OK {
			t.Fatalf("6.4: %v is read from %q as %v, %d", m, s, got, why)
		}
		if id, bits, why := message.Head(s); id != m.Id || bits != m.Bits || why != api.OK {
			t.Fatalf("6.4: the head of %v is read as %x, %x, %d", m, id, bits, why)
		}
	}
}

func TestMostIsReadAsItWas(t *testing.T) {
	for _, c := range right() {
		s, why := message.Write(c.m, api.MaxBytes)
		if why != api.OK {
			t.Fatalf("6.4: Write of a message with %s = %d", c.what, why)
		}
		if got, why := message.Read(s); !same(got, c.m) || why != api.OK {
			t.Errorf("6.4: a message with %s is read as another one, %d", c.what, why)
		}
	}
	m := sized(65535)
	s, _ := message.Write(m, 65535)
	if got, why := message.Read(s); !same(got, m) || why != api.OK {
		t.Errorf("6.4: a message of 65535 bytes is read as another one, %d", why)
	}
}

func TestWhatFitsIsNeverLonger(t *testing.T) {
	draw := rand.New(rand.NewPCG(6, 5))
	cut := 0
	for range 3000 {
		m, limit := anyMessage(draw), draw.IntN(300)
		s, why := message.Fit(m, limit)
		if why == api.ErrLong && s == "" {
			continue
		}
		if len(s) > limit || why != api.OK {
			t.Fatalf("6.4: Fit with limit %d is %d bytes, %d", limit, len(s), why)
		}
		got, why := message.Read(s)
		if why != api.OK {
			t.Fatalf("6.4: what fits is read as %d", why)
		}
		if !same(got, m) {
			cut++
		}
	}
	if cut < 500 {
		t.Errorf("6.4: only %d were cut short", cut)
	}
}

func TestWhatIsReadIsRight(t *testing.T) {
	draw := rand.New(rand.NewPCG(6, 6))
	met := 0
	for range 3000 {
		s, _ := message.Write(anyMessage(draw), api.MaxBytes)
		b := []byte(s)
		for range draw.IntN(3) {
			b[draw.IntN(len(b))] = byte(draw.Uint32())
		}
		m, why := message.Read(string(b))
		switch why {
		case api.OK:
			met++
			if message.Check(m) != api.OK {
				t.Fatalf("6.1: of %q is read %v, that is not right", b, m)
			}
		case api.ErrShort, api.ErrCode, api.ErrLong:
			if !same(m, api.Msg{}) {
				t.Fatalf("6.1: Read of %q = %v, %d", b, m, why)
			}
		default:
			t.Fatalf("6.1: Read of %q = %d", b, why)
		}
	}
	if met < 500 {
		t.Errorf("6.1: only %d were read", met)
	}
}
