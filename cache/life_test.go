package cache_test

import (
	"math"
	"slices"
	"strings"
	"testing"

	"hardtack/api"
	"hardtack/cache"
)

func TestLife(t *testing.T) {
	const day = 86400
	for _, c := range []struct {
		what string
		put  func(*cache.Cache, uint32, int64) bool
		t    api.RType
		most int64
	}{
		{"a set", func(c *cache.Cache, ttl uint32, now int64) bool {
			return c.Put(address(www, ttl), api.RankAnswer, now)
		}, api.TypeA, api.MaxKeep},
		{"no type", func(c *cache.Cache, ttl uint32, now int64) bool {
			return c.None(www, api.TypeMX, false, ttl, now)
		}, api.TypeMX, api.MaxNone},
		{"no name", func(c *cache.Cache, ttl uint32, now int64) bool {
			return c.None(www, 0, true, ttl, now)
		}, api.TypeTXT, api.MaxNone},
	} {
		for _, ttl := range []uint32{1, 2, 60, api.MaxNone - 1, api.MaxNone, api.MaxNone + 1, day, api.MaxKeep - 1, api.MaxKeep, api.MaxKeep + 1, api.MaxTTL} {
			for _, now := range []int64{0, 100, latest} {
				x := newCache(t, 1)
				if !c.put(x, ttl, now) {
					t.Fatalf("14.2: %s with the TTL %d can't be put", c.what, ttl)
				}
				lives := min(int64(ttl), c.most)
				if h := x.All()[0]; h.Until != now+lives || h.Found.Set.TTL != ttl {
					t.Errorf("14.1: %s with the TTL %d, put at %d, is held until %d, with the TTL %d", c.what, ttl, now, h.Until, h.Found.Set.TTL)
				}
				for _, since := range []int64{0, 1, lives / 2, lives - 1} {
					if got, ok := tells(x, www, c.t, now+since); ok != (since < lives) || ok && got.Set.TTL != uint32(lives-since) {
						t.Errorf("14.4: %s with the TTL %d, %d seconds old: %d, %v", c.what, ttl, since, got.Set.TTL, ok)
					}
				}
				for _, at := range []int64{now + lives, now + lives + 1, latest + 1<<20, math.MaxInt64} {
					if got, ok := tells(x, www, c.t, at); ok || !equal(got, api.Found{}) {
						t.Errorf("14.4: %s with the TTL %d, put at %d, at %d: %#v, %v", c.what, ttl, now, at, got, ok)
					}
				}
			}
		}
	}
}

func TestNoneWithTheGreatestTTL(t *testing.T) {
	c := newCache(t, 1)
	if !c.None(www, api.TypeA, false, 1<<32-1, 5) {
		t.Fatal("14.2: that there is none can't be put with a great TTL")
	}
	holds(t, "a great TTL", c, api.Held{Found: none(www, api.TypeA, 1<<32-1), Until: 5 + api.MaxNone})
}

func TestAheadOfWhenItWasPut(t *testing.T) {
	for _, c := range []struct {
		ttl      uint32
		put, now int64
		want     uint32
	}{
		{60, 100, 90, 70},
		{60, 100, 0, 160},
		{api.MaxKeep, 100, 99, api.MaxKeep},
		{api.MaxTTL, 100, 0, api.MaxKeep},
		{60, api.MaxKeep, 61, api.MaxKeep - 1},
		{60, api.MaxKeep, 60, api.MaxKeep},
		{60, api.MaxKeep, 59, api.MaxKeep},
		{60, latest, 0, api.MaxKeep},
		{60, 1<<32 + 60, 100, api.MaxKeep},
	} {
		x := newCache(t, 2)
		x.Put(address(www, c.ttl), api.RankAnswer, c.put)
		if got, ok := tells(x, www, api.TypeA, c.now); !ok || got.Set.TTL != c.want {
			t.Errorf("14.3: of the TTL %d, put at %d, are left at %d: %d, %v", c.ttl, c.put, c.now, got.Set.TTL, ok)
		}
	}
	x := newCache(t, 1)
	x.None(www, 0, true, 60, api.MaxKeep)
	if got, ok := tells(x, www, 0, 0); !ok || !equal(got, none(www, 0, api.MaxKeep)) {
		t.Errorf("14.3: that there is none, ahead of when it was put: %#v, %v", got, ok)
	}
}

func TestGet(t *testing.T) {
	great := strings.ToUpper(www)
	c := newCache(t, 9)
	refer := api.Set{Name: www, Type: api.TypeNS, TTL: 60, Data: []string{"\x01a\x00"}}
	c.Put(address(www, 60), api.RankGlue, 0)
	c.Put(refer, api.RankRefer, 0)
	c.None(www, api.TypeMX, false, 60, 0)
	c.None(org, 0, true, 60, 0)
	c.Put(address(org, 60), api.RankHead, 0)
	c.None(org, api.TypeMX, false, 30, 0)
	nothing := api.Found{}
	for _, x := range []struct {
		name  string
		t     api.RType
		least api.Rank
		want  api.Found
	}{
		{www, api.TypeA, api.RankNone, set(address(www, 60), api.RankGlue, 50)},
		{great, api.TypeA, api.RankGlue, set(address(www, 60), api.RankGlue, 50)},
		{www, api.TypeA, api.RankRefer, nothing},
		{www, api.TypeA, 255, nothing},
		{www, api.TypeNS, api.RankGlue, set(refer, api.RankRefer, 50)},
		{www, api.TypeNS, api.RankRefer, set(refer, api.RankRefer, 50)},
		{www, api.TypeNS, api.RankHead, nothing},
		{great, api.TypeMX, api.RankAnswer, none(www, api.TypeMX, 50)},
		{www, api.TypeMX, api.RankCount, nothing},
		{www, api.TypeTXT, api.RankNone, nothing},
		{www, 0, api.RankNone, nothing},
		{www, api.TypeANY, api.RankNone, nothing},
		{"\x01a" + www, api.TypeA, api.RankNone, nothing},
		{org, api.TypeA, api.RankHead, set(address(org, 60), api.RankHead, 50)},
		{org, api.TypeA, api.RankAnswer, none(org, 0, 50)},
		{org, api.TypeA, api.RankCount, nothing},
		{org, api.TypeMX, api.RankAnswer, none(org, api.TypeMX, 20)},
		{org, api.TypeTXT, api.RankGlue, none(org, 0, 50)},
		{strings.ToLower(org), 0, api.RankAnswer, none(org, 0, 50)},
		{org, 0, api.RankCount, nothing},
		{"\x01a" + org, api.TypeA, api.RankNone, nothing},
		{"\x00", api.TypeA, api.RankNone, nothing},
		{"", api.TypeA, api.RankNone, nothing},
		{"\x03Org", api.TypeA, api.RankNone, nothing},
		{org + "\x00", 0, api.RankNone, nothing},
		{"Org.", 0, api.RankNone, nothing},
	} {
		if got, ok := c.Clone().Get(x.name, x.t, x.least, 10); !equal(got, x.want) || ok == equal(x.want, nothing) {
			t.Errorf("14.3: Get(%q, %d, %d) = %#v, %v", x.name, x.t, x.least, got, ok)
		}
		if got, ok := c.Clone().Get(x.name, x.t, x.least, -1); ok || !equal(got, nothing) {
			t.Errorf("14.3: Get(%q, %d, %d), at a time below 0, = %#v, %v", x.name, x.t, x.least, got, ok)
		}
	}
	if got, ok := tells(c, org, api.TypeMX, 40); !ok || !equal(got, none(org, 0, 20)) {
		t.Errorf("14.3: once that there is none of a type no longer lives, Get = %#v, %v", got, ok)
	}
}

func TestSweep(t *testing.T) {
	full := newCache(t, 9)
	full.Put(address(www, 10), api.RankGlue, 0)
	full.None(www, api.TypeMX, false, 20, 0)
	full.None(org, 0, true, 30, 0)
	full.Put(address(org, 10), api.RankAnswer, 0)
	full.Put(address(net, 20), api.RankAnswer, 0)
	all := full.All()
	for _, c := range []struct {
		now  int64
		want []int
	}{
		{math.MinInt64, []int{0, 1, 2, 3, 4}},
		{-1, []int{0, 1, 2, 3, 4}},
		{0, []int{0, 1, 2, 3, 4}},
		{9, []int{0, 1, 2, 3, 4}},
		{10, []int{0, 2, 3}},
		{19, []int{0, 2, 3}},
		{20, []int{2}},
		{29, []int{2}},
		{30, nil},
		{math.MaxInt64, nil},
	} {
		var want []api.Held
		for _, i := range c.want {
			want = append(want, all[i])
		}
		x := full.Clone()
		if got := x.Sweep(c.now); got != len(all)-len(want) {
			t.Errorf("14.1: Sweep(%d) = %d", c.now, got)
		}
		holds(t, "swept", x, want...)
		if got := x.Sweep(c.now); got != 0 {
			t.Errorf("14.1: Sweep(%d) again = %d", c.now, got)
		}
		holds(t, "swept again", x, want...)
	}
	if got := newCache(t, 1).Sweep(5); got != 0 {
		t.Errorf("14.1: Sweep of an empty one = %d", got)
	}
}

// TestRoomBehindASweep fills a cache again, as what went must have left nothing behind.
func TestRoomBehindASweep(t *testing.T) {
	c := newCache(t, 2)
	for now := int64(0); now < 50; now += 10 {
		c.Put(address(www, 10), api.RankAnswer, now)
		c.Put(address(org, 10), api.RankAnswer, now)
		if got := c.Sweep(now + 10); got != 2 || c.Len() != 0 {
			t.Fatalf("14.1: Sweep(%d) = %d, %d are held", now+10, got, c.Len())
		}
		if _, ok := tells(c, www, api.TypeA, now); ok {
			t.Fatal("14.1: what was swept is told")
		}
	}
	c.Put(address(www, 10), api.RankGlue, 0)
	c.Put(address(org, 10), api.RankGlue, 0)
	c.Put(address(net, 10), api.RankGlue, 0)
	holds(t, "filled again", c, api.Held{Found: set(address(net, 10), api.RankGlue, 10), Until: 10}, api.Held{Found: set(address(org, 10), api.RankGlue, 10), Until: 10})
}

func TestClone(t *testing.T) {
	c := newCache(t, 2)
	c.Put(address(www, 60), api.RankGlue, 0)
	c.None(org, 0, true, 60, 0)
	other := c.Clone()
	had := c.All()
	holds(t, "a clone", other, had...)
	other.Get(www, api.TypeA, api.RankGlue, 0)
	holds(t, "a clone was asked", c, had...)
	holds(t, "a clone that was asked", other, had[1], had[0])
	other.Put(address(net, 60), api.RankGlue, 0)
	other.Put(address(www, 99), api.RankHead, 0)
	holds(t, "a clone was put something", c, had...)
	other.Sweep(1000)
	holds(t, "a clone was swept", c, had...)
	holds(t, "a clone that was swept", other)
	other = c.Clone()
	c.Put(address(net, 60), api.RankGlue, 0)
	c.Sweep(1000)
	holds(t, "another one was swept", other, had...)
	other.Put(address(net, 60), api.RankGlue, 0)
	holds(t, "a clone has the same room", other, api.Held{Found: set(address(net, 60), api.RankGlue, 60), Until: 60}, had[0])
	holds(t, "a clone of an empty one", newCache(t, 3).Clone())
}

func TestArgumentsAreChangedAfterwards(t *testing.T) {
	c := newCache(t, 2)
	s := address(www, 60)
	c.Put(s, api.RankAnswer, 0)
	s.Data[0] = "changed"
	want := set(address(www, 60), api.RankAnswer, 60)
	if got, ok := tells(c, www, api.TypeA, 0); !ok || !equal(got, want) {
		t.Errorf("14.2: once its set was changed, Get = %#v", got)
	}
	told, _ := c.Get(www, api.TypeA, api.RankGlue, 0)
	told.Set.Data[0] = "changed"
	c.All()[0].Found.Set.Data[1] = "changed"
	other := c.Clone()
	other.All()[0].Found.Set.Data[1] = "changed"
	told, _ = other.Get(www, api.TypeA, api.RankGlue, 0)
	told.Set.Data[0] = "changed"
	for _, x := range []*cache.Cache{c, other} {
		if got, ok := tells(x, www, api.TypeA, 0); !ok || !equal(got, want) {
			t.Errorf("14.3: once answers were changed, Get = %#v", got)
		}
	}
	s = api.Set{Name: org, Type: api.TypeNS, TTL: 9, Data: []string{"\x01b\x00", "\x01c\x00", "\x01d\x00"}}
	s.Data = s.Data[:2]
	had := slices.Clone(s.Data[:3])
	c.Put(s, api.RankAnswer, 0)
	told, _ = c.Get(org, api.TypeNS, api.RankGlue, 0)
	_ = append(told.Set.Data, "changed")
	if !slices.Equal(s.Data[:3], had) {
		t.Error("14.2: what stands behind the data of an argument was changed")
	}
}

// TestNotMadeByNew has caches that must not be: they hold nothing, and no call of theirs panics.
func TestNotMadeByNew(t *testing.T) {
	for _, c := range []*cache.Cache{nil, {}} {
		if c.Put(address(www, 60), api.RankAnswer, 0) || c.None(www, 0, true, 60, 0) {
			t.Error("14.2: something can be put into what New did not make")
		}
		if _, ok := c.Get(www, api.TypeA, api.RankNone, 0); ok || c.Len() != 0 || len(c.All()) != 0 || c.Sweep(0) != 0 {
			t.Error("14.1: what New did not make holds something")
		}
		if other := c.Clone(); (other == nil) != (c == nil) || other.Len() != 0 || other.Put(address(www, 60), api.RankAnswer, 0) {
			t.Error("14.1: what New did not make has a clone that is another one")
		}
	}
}
