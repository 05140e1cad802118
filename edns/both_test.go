package edns_test

import (
	"math/rand/v2"
	"testing"

	"hardtack/api"
	"hardtack/edns"
	"hardtack/message"
)

func anyOf[T any](draw *rand.Rand, l ...T) T { return l[draw.IntN(len(l))] }

func anyEdns(draw *rand.Rand) api.Edns {
	if draw.IntN(8) == 0 {
		return api.Edns{}
	}
	e := api.Edns{There: true, Size: uint16(draw.Uint32()), High: uint8(draw.Uint32()), Version: uint8(draw.Uint32()), Flags: uint16(draw.Uint32())}
	for range draw.IntN(5) {
		e.Options = append(e.Options, api.Option{Code: anyOf(draw, 0, 3, 10, uint16(draw.Uint32())), Data: anyOf(draw, "", "\x00\x0a\x00\x00", text(draw.IntN(1000)))})
	}
	return e
}

func anyMessage(draw *rand.Rand) api.Msg {
	m := api.Msg{Id: uint16(draw.Uint32()), Bits: uint16(draw.Uint32())}
	for range draw.IntN(3) {
		m.Says = append(m.Says, anyOf(draw, one, two))
		m.Heads = append(m.Heads, anyOf(draw, one, two))
	}
	for range draw.IntN(5) {
		m.Extra = append(m.Extra, anyOf(draw, one, two, opt(""), opt("\x00\x01\x00\x00")))
	}
	return m
}

func TestThereAndBack(t *testing.T) {
	draw := rand.New(rand.NewPCG(7, 4))
	for range 3000 {
		m, e := anyMessage(draw), anyEdns(draw)
		put, why := edns.Put(m, e)
		if why != api.OK {
			t.Fatalf("7.4: Put of %v = %d", e, why)
		}
		if got, why := edns.Get(put); !alike(got, e) || why != api.OK {
			t.Fatalf("7.4: of %v is got %v, %d", e, got, why)
		}
		if again, why := edns.Put(put, e); !same(again, put) || why != api.OK {
			t.Fatalf("7.4: %v, put again, is put otherwise, %d", e, why)
		}
	}
}

func TestThereAndBackOfAll(t *testing.T) {
	for _, c := range right() {
		put, _ := edns.Put(with(one, opt(""), two), c.e)
		if got, why := edns.Get(put); !alike(got, c.e) || why != api.OK {
			t.Errorf("7.4: %s is got as %v, %d", c.what, got, why)
		}
	}
}

func TestThereAndBackAsBytes(t *testing.T) {
	draw := rand.New(rand.NewPCG(7, 5))
	for range 1000 {
		m, e := anyMessage(draw), anyEdns(draw)
		put, _ := edns.Put(m, e)
		s, why := message.Write(put, api.MaxBytes)
		if why != api.OK {
			t.Fatalf("7.4: what says %v is written as %d", e, why)
		}
		read, _ := message.Read(s)
		if got, why := edns.Get(read); !alike(got, e) || why != api.OK {
			t.Fatalf("7.4: of %v is got %v, %d, from bytes", e, got, why)
		}
	}
}

func TestCookiesThereAndBack(t *testing.T) {
	draw := rand.New(rand.NewPCG(7, 6))
	for range 3000 {
		e := anyEdns(draw)
		server := text(anyOf(draw, 0, 8+draw.IntN(25)))
		e, why := edns.With(e, client, server)
		if why != api.OK {
			t.Fatalf("7.4: With = %d", why)
		}
		put, why := edns.Put(anyMessage(draw), e)
		if why != api.OK {
			t.Fatalf("7.4: Put of cookies = %d", why)
		}
		got, _ := edns.Get(put)
		if c, s, why := edns.Cookies(got); c != client || s != server || why != api.OK {
			t.Fatalf("7.4: of cookies are got %q, %q, %d", c, s, why)
		}
	}
}
