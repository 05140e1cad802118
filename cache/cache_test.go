package cache_test

import (
	"math"
	"slices"
	"strconv"
	"strings"
	"testing"

	"hardtack/api"
	"hardtack/cache"
)

const (
	org    = "\x03Org\x00"
	www    = "\x03www\x03Org\x00"
	net    = "\x03net\x00"
	latest = 1 << 62
)

// equal holds what is told against one another by hand.
func equal(a, b api.Found) bool {
	return a.Set.Name == b.Set.Name && a.Set.Type == b.Set.Type && a.Set.TTL == b.Set.TTL && slices.Equal(a.Set.Data, b.Set.Data) &&
		a.Rank == b.Rank && a.No == b.No && a.Name == b.Name
}

func alike(a, b api.Held) bool { return a.Until == b.Until && equal(a.Found, b.Found) }

func newCache(t *testing.T, room int) *cache.Cache {
	t.Helper()
	c, why := cache.New(room)
	if c == nil || why != api.OK {
		t.Fatalf("14.1: New(%d) = %v, %d", room, c, why)
	}
	return c
}

func address(name string, ttl uint32) api.Set {
	return api.Set{Name: name, Type: api.TypeA, TTL: ttl, Data: []string{"abcd", "bcde"}}
}

// set is what a cache tells of a set; none, that there is none of a type, or of all.
func set(s api.Set, k api.Rank, ttl uint32) api.Found {
	s.TTL = ttl
	return api.Found{Set: s, Rank: k}
}

func none(name string, t api.RType, ttl uint32) api.Found {
	return api.Found{Set: api.Set{Name: name, Type: t, TTL: ttl}, Rank: api.RankAnswer, No: true, Name: t == 0}
}

// tells looks for what is of a name and a type without using it, as the cache itself stays as it is.
func tells(c *cache.Cache, name string, t api.RType, now int64) (api.Found, bool) {
	return c.Clone().Get(name, t, api.RankNone, now)
}

// holds looks at all that is held, that used last first.
func holds(t *testing.T, what string, c *cache.Cache, want ...api.Held) {
	t.Helper()
	if got := c.All(); !slices.EqualFunc(got, want, alike) {
		t.Errorf("14.1: %s: All() = %#v, not %#v", what, got, want)
	}
	if c.Len() != len(want) {
		t.Errorf("14.1: %s: Len() = %d, not %d", what, c.Len(), len(want))
	}
}

func TestNew(t *testing.T) {
	for _, room := range []int{1, 2, 1000, api.MaxSets - 1, api.MaxSets} {
		holds(t, "a new one", newCache(t, room))
	}
	for _, room := range []int{0, -1, math.MinInt, api.MaxSets + 1, math.MaxInt} {
		if c, why := cache.New(room); c != nil || why != api.ErrRange {
			t.Errorf("14.1: New(%d) = %v, %d", room, c, why)
		}
	}
}

func TestPut(t *testing.T) {
	for _, k := range []api.Rank{api.RankGlue, api.RankRefer, api.RankHead, api.RankAnswer} {
		for _, now := range []int64{0, 1, 1000, latest - 1, latest} {
			c := newCache(t, 1)
			if !c.Put(address(www, 60), k, now) {
				t.Fatalf("14.2: a set of the rank %d can't be put at %d", k, now)
			}
			holds(t, "a set", c, api.Held{Found: set(address(www, 60), k, 60), Until: now + 60})
			if got, ok := tells(c, www, api.TypeA, now); !ok || !equal(got, set(address(www, 60), k, 60)) {
				t.Errorf("14.3: Get of a set of the rank %d at %d = %#v, %v", k, now, got, ok)
			}
		}
	}
}

func TestPutNothing(t *testing.T) {
	for _, c := range []struct {
		what string
		turn func(*api.Set)
		k    api.Rank
		now  int64
	}{
		{"no name", func(s *api.Set) { s.Name = "www" }, api.RankAnswer, 5},
		{"no data", func(s *api.Set) { s.Data = nil }, api.RankAnswer, 5},
		{"wrong data", func(s *api.Set) { s.Data = []string{"abc"} }, api.RankAnswer, 5},
		{"data that fall", func(s *api.Set) { s.Data = []string{"b234", "a234"} }, api.RankAnswer, 5},
		{"a TTL that is too great", func(s *api.Set) { s.TTL = api.MaxTTL + 1 }, api.RankAnswer, 5},
		{"a TTL of 0", func(s *api.Set) { s.TTL = 0 }, api.RankAnswer, 5},
		{"the type 0", func(s *api.Set) { s.Type = 0 }, api.RankAnswer, 5},
		{"no rank", func(*api.Set) {}, api.RankNone, 5},
		{"a rank that there is not", func(*api.Set) {}, api.RankCount, 5},
		{"the greatest number as its rank", func(*api.Set) {}, 255, 5},
		{"a time below 0", func(*api.Set) {}, api.RankAnswer, -1},
		{"the least time", func(*api.Set) {}, api.RankAnswer, math.MinInt64},
		{"a time that is too great", func(*api.Set) {}, api.RankAnswer, latest + 1},
		{"the greatest time", func(*api.Set) {}, api.RankAnswer, math.MaxInt64},
	} {
		s := address(www, 60)
		c.turn(&s)
		full := newCache(t, 2)
		full.Put(address(www, 60), api.RankGlue, 4)
		full.Put(address(org, 60), api.RankGlue, 4)
		had := full.All()
		if full.Put(s, c.k, c.now) {
			t.Errorf("14.2: a set can be put, but with %s", c.what)
		}
		holds(t, c.what, full, had...)
		empty := newCache(t, 2)
		if empty.Put(s, c.k, c.now) || empty.Len() != 0 {
			t.Errorf("14.2: a set can be put into an empty cache, but with %s", c.what)
		}
	}
}

func TestPutOfManyTypes(t *testing.T) {
	c := newCache(t, api.MaxSets)
	types := []api.RType{1, api.TypeMX, api.TypeOPT, api.TypeANY, 256, 65535}
	data := map[api.RType]string{1: "abcd", api.TypeMX: "\x00\x01\x01a\x00"}
	for i, kind := range types {
		d, known := data[kind]
		if !known {
			d = "any"
		}
		s := api.Set{Name: www, Type: kind, TTL: 60, Data: []string{d}}
		if !c.Put(s, api.RankAnswer, 5) || c.Len() != i+1 {
			t.Errorf("14.2: a set of the type %d can't be put", kind)
		}
		if got, ok := tells(c, www, kind, 5); !ok || !equal(got, set(s, api.RankAnswer, 60)) {
			t.Errorf("14.3: Get of the type %d = %#v, %v", kind, got, ok)
		}
	}
}

func TestNone(t *testing.T) {
	for _, c := range []struct {
		t    api.RType
		all  bool
		want api.RType
	}{
		{api.TypeMX, false, api.TypeMX},
		{65535, false, 65535},
		{0, true, 0},
		{api.TypeMX, true, 0},
		{65535, true, 0},
	} {
		for _, now := range []int64{0, 7, latest} {
			x := newCache(t, 1)
			if !x.None(www, c.t, c.all, 60, now) {
				t.Fatalf("14.2: None(%d, %v) at %d can't be put", c.t, c.all, now)
			}
			holds(t, "none", x, api.Held{Found: none(www, c.want, 60), Until: now + 60})
			if got, ok := tells(x, www, c.want, now); !ok || !equal(got, none(www, c.want, 60)) {
				t.Errorf("14.3: Get of None(%d, %v) at %d = %#v, %v", c.t, c.all, now, got, ok)
			}
		}
	}
}

func TestNoneNothing(t *testing.T) {
	for _, c := range []struct {
		what string
		name string
		t    api.RType
		all  bool
		ttl  uint32
		now  int64
	}{
		{"no name, of all", "www", 0, true, 60, 5},
		{"no name, of a type", "", api.TypeA, false, 60, 5},
		{"too long a name", strings.Repeat("\x01a", 128) + "\x00", api.TypeA, false, 60, 5},
		{"neither a type, nor all", www, 0, false, 60, 5},
		{"a TTL of 0", www, api.TypeA, false, 0, 5},
		{"a TTL of 0, of all", www, 0, true, 0, 5},
		{"a time below 0", www, api.TypeA, false, 60, -1},
		{"a time that is too great", www, api.TypeA, false, 60, latest + 1},
		{"the greatest time", www, 0, true, 60, math.MaxInt64},
	} {
		full := newCache(t, 2)
		full.Put(address(www, 60), api.RankGlue, 4)
		full.Put(address(org, 60), api.RankGlue, 4)
		had := full.All()
		if full.None(c.name, c.t, c.all, c.ttl, c.now) {
			t.Errorf("14.2: None of %s can be put", c.what)
		}
		holds(t, c.what, full, had...)
	}
}

// TestOnePlace has names with other letters, what is of the same place, and what is not.
func TestOnePlace(t *testing.T) {
	great := strings.ToUpper(www)
	c := newCache(t, 9)
	c.Put(address(www, 60), api.RankAnswer, 5)
	c.Put(address(great, 70), api.RankAnswer, 5)
	first := api.Held{Found: set(address(great, 70), api.RankAnswer, 70), Until: 75}
	holds(t, "a set of the same name", c, first)
	c.None(strings.ToLower(www), api.TypeA, false, 80, 5)
	second := api.Held{Found: none(strings.ToLower(www), api.TypeA, 80), Until: 85}
	holds(t, "that there is none of the same type", c, second)
	c.None(www, api.TypeMX, true, 90, 5)
	third := api.Held{Found: none(www, 0, 90), Until: 95}
	holds(t, "that there is no such name", c, third, second)
	c.None(great, 0, true, 99, 5)
	third = api.Held{Found: none(great, 0, 99), Until: 104}
	holds(t, "the same again", c, third, second)
	c.None(www, api.TypeMX, false, 50, 5)
	fourth := api.Held{Found: none(www, api.TypeMX, 50), Until: 55}
	c.Put(address(org, 10), api.RankGlue, 5)
	fifth := api.Held{Found: set(address(org, 10), api.RankGlue, 10), Until: 15}
	holds(t, "of other places", c, fifth, fourth, third, second)
	c.Put(address(great, 70), api.RankAnswer, 5)
	holds(t, "a set again", c, first, fifth, fourth, third)
}

func TestRanks(t *testing.T) {
	for had := api.RankGlue; had <= api.RankAnswer; had++ {
		for k := api.RankGlue; k <= api.RankAnswer; k++ {
			c := newCache(t, 1)
			c.Put(address(www, 60), had, 0)
			for _, now := range []int64{0, 59} {
				other := c.Clone()
				if got := other.Put(address(org, 30), k, now); !got {
					t.Errorf("14.2: what is of another place can't be put")
				}
				other = c.Clone()
				if got := other.Put(address(www, 30), k, now); got != (k >= had) {
					t.Errorf("14.5: the rank %d over %d, at %d: %v", k, had, now, got)
				}
				want := set(address(www, 60), had, uint32(60-now))
				if k >= had {
					want = set(address(www, 30), k, 30)
				}
				if got, ok := tells(other, www, api.TypeA, now); !ok || !equal(got, want) {
					t.Errorf("14.5: the rank %d over %d, at %d: Get = %#v, %v", k, had, now, got, ok)
				}
			}
			if !c.Put(address(www, 30), k, 60) {
				t.Errorf("14.2: the rank %d over %d, which does not live, can't be put", k, had)
			}
			holds(t, "in place of what does not live", c, api.Held{Found: set(address(www, 30), k, 30), Until: 90})
		}
	}
}

func TestRanksOfNone(t *testing.T) {
	for k := api.RankGlue; k <= api.RankAnswer; k++ {
		c := newCache(t, 1)
		c.Put(address(www, 60), k, 0)
		if !c.None(www, api.TypeA, false, 10, 0) {
			t.Errorf("14.2: that there is none can't be put over the rank %d", k)
		}
		if got := c.Put(address(www, 60), k, 9); got != (k == api.RankAnswer) {
			t.Errorf("14.5: the rank %d over that there is none: %v", k, got)
		}
		c.None(www, api.TypeA, false, 10, 0)
		if !c.Put(address(www, 60), k, 10) {
			t.Errorf("14.2: the rank %d over that there was none can't be put", k)
		}
		c.None(www, 0, true, 10, 10)
		if !c.Put(address(www, 60), k, 10) {
			t.Errorf("14.2: the rank %d beside that there is no such name can't be put", k)
		}
	}
}

func TestIsInItsOrder(t *testing.T) {
	c := newCache(t, 3)
	names := func(what string, want ...string) {
		t.Helper()
		var got []string
		for _, h := range c.All() {
			got = append(got, h.Found.Set.Name)
		}
		if !slices.Equal(got, want) {
			t.Errorf("14.2: %s: the order is %q, not %q", what, got, want)
		}
	}
	c.Put(address(www, 60), api.RankHead, 0)
	c.None(org, api.TypeMX, false, 5, 0)
	c.Put(address(net, 60), api.RankHead, 0)
	names("put", net, org, www)
	c.Get(www, api.TypeA, api.RankHead, 0)
	names("asked for", www, net, org)
	c.Get(org, api.TypeA, api.RankHead, 0)
	c.Get(net, api.TypeA, api.RankAnswer, 0)
	c.Get(net, api.TypeA, api.RankHead, 60)
	c.Get(net, api.TypeA, api.RankHead, -1)
	c.Get("net", api.TypeA, api.RankHead, 0)
	c.Put(address(net, 60), api.RankGlue, 0)
	c.Put(address(net, 0), api.RankHead, 0)
	names("asked for without an answer, or put without success", www, net, org)
	c.Put(address(net, 60), api.RankAnswer, 0)
	names("put again", net, www, org)
	c.Get(org, api.TypeMX, api.RankAnswer, 0)
	names("that there is none, asked for", org, net, www)
	c.Put(address("\x01a\x00", 60), api.RankGlue, 0)
	names("one too many", "\x01a\x00", org, net)
	c.None("\x01b\x00", 0, true, 60, 0)
	names("two too many", "\x01b\x00", "\x01a\x00", org)
	c.Get("\x01a\x00", api.TypeA, api.RankGlue, 0)
	c.Get(org, api.TypeMX, api.RankGlue, 0)
	c.Get("\x01B\x00", api.TypeMX, api.RankGlue, 0)
	names("that there is no such name, asked for", "\x01b\x00", org, "\x01a\x00")
	c.Put(address(www, 60), api.RankGlue, 59)
	names("the one longest ago lives, another one does not", www, "\x01b\x00", org)
}

func TestRoomForOne(t *testing.T) {
	c := newCache(t, 1)
	for i, name := range []string{www, org, net, www} {
		c.Put(address(name, 60), api.RankAnswer, int64(i))
		holds(t, "room for one", c, api.Held{Found: set(address(name, 60), api.RankAnswer, 60), Until: int64(i) + 60})
	}
	c.None(www, 0, true, 60, 0)
	holds(t, "none in place of another", c, api.Held{Found: none(www, 0, 60), Until: 60})
}

func TestFullOfManyThings(t *testing.T) {
	const more = 100
	c := newCache(t, api.MaxSets)
	var want []string
	for i := range api.MaxSets + more {
		name := "\x04" + strconv.Itoa(1000+i) + "\x00"
		if !c.Put(address(name, 60), api.RankAnswer, 0) || c.Len() > api.MaxSets {
			t.Fatalf("14.2: the set %d can't be put, or %d are held", i, c.Len())
		}
		want = append(want, name)
	}
	want = want[more:]
	slices.Reverse(want)
	var got []string
	for _, h := range c.All() {
		got = append(got, h.Found.Set.Name)
	}
	if !slices.Equal(got, want) {
		t.Errorf("14.1: of %d things %d are held, or in another order", api.MaxSets+more, len(got))
	}
}
