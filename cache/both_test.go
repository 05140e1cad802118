package cache_test

import (
	"math/rand/v2"
	"slices"
	"strings"
	"testing"

	"hardtack/api"
	"hardtack/cache"
)

// plain is a cache as the chapter tells it, without haste: things in a list, that used last first.
type plain struct {
	room int
	l    []api.Held
}

func isOf(h api.Held, name string, t api.RType) bool {
	return strings.EqualFold(h.Found.Set.Name, name) && h.Found.Set.Type == t
}

func (p *plain) hold(f api.Found, most, now int64) bool {
	same := func(h api.Held) bool { return isOf(h, f.Set.Name, f.Set.Type) }
	better := func(h api.Held) bool { return same(h) && now < h.Until && h.Found.Rank > f.Rank }
	if f.Set.TTL == 0 || now < 0 || now > latest || slices.ContainsFunc(p.l, better) {
		return false
	}
	p.l = slices.DeleteFunc(p.l, same)
	p.l = slices.Insert(p.l, 0, api.Held{Found: f, Until: now + min(int64(f.Set.TTL), most)})
	p.l = p.l[:min(len(p.l), p.room)]
	return true
}

func (p *plain) get(name string, t api.RType, least api.Rank, now int64) (api.Found, bool) {
	for _, kind := range []api.RType{t, 0} {
		at := slices.IndexFunc(p.l, func(h api.Held) bool {
			return isOf(h, name, kind) && now < h.Until && h.Found.Rank >= least
		})
		if at < 0 || now < 0 {
			continue
		}
		h := p.l[at]
		p.l = slices.Insert(slices.Delete(p.l, at, at+1), 0, h)
		h.Found.Set.TTL = uint32(min(h.Until-now, api.MaxKeep))
		return h.Found, true
	}
	return api.Found{}, false
}

func (p *plain) sweep(now int64) int {
	had := len(p.l)
	p.l = slices.DeleteFunc(p.l, func(h api.Held) bool { return h.Until <= now })
	return had - len(p.l)
}

func anyOf[T any](draw *rand.Rand, l ...T) T { return l[draw.IntN(len(l))] }

// both are a cache, and what it must be.
type both struct {
	c    *cache.Cache
	p    *plain
	t    *testing.T
	draw *rand.Rand
	puts int
	gets int
}

func (b *both) name() string {
	return anyOf(b.draw, www, strings.ToUpper(www), org, strings.ToLower(org), net)
}

func (b *both) kind() api.RType { return anyOf(b.draw, api.TypeA, api.TypeMX, 99, 0) }

func (b *both) ttl() uint32 {
	return anyOf(b.draw, b.draw.Uint32N(20), b.draw.Uint32N(20), b.draw.Uint32N(20), api.MaxNone+b.draw.Uint32N(2), api.MaxKeep+b.draw.Uint32N(2), api.MaxTTL)
}

func (b *both) put(now int64) {
	s := api.Set{Name: b.name(), Type: b.kind(), TTL: b.ttl(), Data: []string{anyOf(b.draw, "a", "b")}}
	switch s.Type {
	case api.TypeA:
		s.Data[0] = strings.Repeat(s.Data[0], 4)
	case api.TypeMX:
		s.Data[0] = "\x00\x01\x01" + s.Data[0] + "\x00"
	}
	k := api.Rank(b.draw.IntN(int(api.RankCount) + 1))
	want := s.Type != 0 && k >= api.RankGlue && k <= api.RankAnswer && b.p.hold(api.Found{Set: s, Rank: k}, api.MaxKeep, now)
	if got := b.c.Put(s, k, now); got != want {
		b.t.Fatalf("14.2: Put(%#v, %d, %d) = %v", s, k, now, got)
	}
	if want {
		b.puts++
	}
}

func (b *both) none(now int64) {
	name, t, all, ttl := b.name(), b.kind(), b.draw.IntN(2) == 0, b.ttl()
	kind := t
	if all {
		kind = 0
	}
	want := (t != 0 || all) && b.p.hold(none(name, kind, ttl), api.MaxNone, now)
	if got := b.c.None(name, t, all, ttl, now); got != want {
		b.t.Fatalf("14.2: None(%q, %d, %v, %d, %d) = %v", name, t, all, ttl, now, got)
	}
}

func (b *both) get(now int64) {
	name, t, least := b.name(), b.kind(), api.Rank(b.draw.IntN(int(api.RankCount)+1))
	want, known := b.p.get(name, t, least, now)
	got, ok := b.c.Get(name, t, least, now)
	if !equal(got, want) || ok != known {
		b.t.Fatalf("14.3: Get(%q, %d, %d, %d) = %#v, %v, not %#v, %v", name, t, least, now, got, ok, want, known)
	}
	if ok && (got.Set.TTL < 1 || got.Set.TTL > api.MaxKeep) {
		b.t.Fatalf("14.4: %d seconds are left", got.Set.TTL)
	}
	if ok {
		b.gets++
	}
}

// step does one thing to both, or goes on with clones of both.
func (b *both) step(now int64) {
	switch b.draw.IntN(20) {
	case 0:
		if got, want := b.c.Sweep(now), b.p.sweep(now); got != want {
			b.t.Fatalf("14.1: Sweep(%d) = %d, not %d", now, got, want)
		}
	case 1:
		old := b.c
		b.c = old.Clone()
		old.Sweep(latest)
		old.Put(address(www, 9), api.RankAnswer, 0)
	case 2, 3, 4:
		b.none(now)
	case 5, 6, 7, 8, 9, 10, 11:
		b.put(now)
	default:
		b.get(now)
	}
	if got := b.c.All(); !slices.EqualFunc(got, b.p.l, alike) || b.c.Len() != len(b.p.l) {
		b.t.Fatalf("14.1: All() = %#v, not %#v", got, b.p.l)
	}
}

func TestWhateverHappens(t *testing.T) {
	draw := rand.New(rand.NewPCG(14, 1))
	puts, gets := 0, 0
	for range 300 {
		room := 1 + draw.IntN(12)
		b := &both{c: newCache(t, room), p: &plain{room: room}, t: t, draw: draw}
		now := anyOf[int64](draw, 0, 1000, latest-1000)
		for range 200 {
			b.step(now)
			now = max(now+anyOf[int64](draw, 0, 0, 1, 1, 2, 9, -3), -2)
		}
		puts, gets = puts+b.puts, gets+b.gets
	}
	if puts < 1000 || gets < 1000 {
		t.Errorf("14.2: only %d things were put, %d told", puts, gets)
	}
}

// TestNoLonger follows one thing through time: it is told with what is left of what was put, until it is told no more.
func TestNoLonger(t *testing.T) {
	draw := rand.New(rand.NewPCG(14, 4))
	for range 300 {
		c := newCache(t, 4)
		ttl, put := 1+draw.Uint32N(40), draw.Int64N(100)
		c.Put(address(www, ttl), api.RankAnswer, put)
		for now := put; now < put+50; now++ {
			got, ok := c.Get(www, api.TypeA, api.RankGlue, now)
			if since := now - put; ok != (since < int64(ttl)) || ok && (got.Set.TTL < 1 || int64(got.Set.TTL) > int64(ttl)-since) {
				t.Fatalf("14.4: of the TTL %d, %d seconds ago, %d are left, %v", ttl, since, got.Set.TTL, ok)
			}
			if draw.IntN(4) == 0 {
				c.Sweep(now)
			}
		}
	}
}

// TestBetterAlone puts again and again what is of one place: while it lives, its rank never falls.
func TestBetterAlone(t *testing.T) {
	draw := rand.New(rand.NewPCG(14, 5))
	kept := 0
	for range 300 {
		c := newCache(t, 1)
		for now := int64(0); now < 60; now += draw.Int64N(3) + 1 {
			had, lives := tells(c, www, api.TypeA, now)
			put := c.Put(address(www, 1+draw.Uint32N(20)), 1+api.Rank(draw.IntN(4)), now)
			got, ok := tells(c, www, api.TypeA, now)
			if !ok || lives && got.Rank < had.Rank || !lives && !put {
				t.Fatalf("14.5: %#v took the place of %#v", got, had)
			}
			if !put {
				kept++
			}
		}
	}
	if kept < 100 {
		t.Errorf("14.5: only %d times something better was kept", kept)
	}
}
