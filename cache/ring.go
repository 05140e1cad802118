package cache

import (
	"slices"

	"hardtack/api"
)

// owner is what a thing is of: a name, with small letters, and a type (0, if it is of all of them).
type owner struct {
	name string
	t    api.RType
}

// thing is what is held. Its data may be a clone's, too, so they are never changed.
type thing struct {
	owner
	api.Held
}

func (t thing) lives(now int64) bool { return now < t.Until }

func (t thing) told() api.Held {
	h := t.Held
	h.Found.Set.Data = slices.Clone(h.Found.Set.Data)
	return h
}

// left is what is told of what lives. At a time before it was put more seconds are left than it was put for.
func (t thing) left(now int64) api.Found {
	f := t.told().Found
	f.Set.TTL = uint32(min(t.Until-now, api.MaxKeep))
	return f
}

// place is where a thing stands in the ring: between what was used just behind it, and just ahead of it.
type place struct {
	thing
	newer, older *place
}

// ring has things in the order in which they were used last. Its head is a place without a thing: the one that is older was used last, the one that is newer longest ago.
type ring struct {
	head   *place
	places map[owner]*place
}

func newRing() ring {
	head := &place{}
	head.newer, head.older = head, head
	return ring{head, map[owner]*place{}}
}

// oldest is the head, if there is no thing.
func (r ring) oldest() *place { return r.head.newer }

// add puts a thing, of which the ring has none of the same owner, just behind the place newer.
func (r ring) add(t thing, newer *place) {
	p := &place{thing: t}
	p.stand(newer)
	r.places[p.owner] = p
}

func (r ring) use(p *place) {
	p.leave()
	p.stand(r.head)
}

func (r ring) drop(p *place) {
	p.leave()
	delete(r.places, p.owner)
}

func (p *place) stand(newer *place) {
	p.newer, p.older = newer, newer.older
	p.older.newer, newer.older = p, p
}

func (p *place) leave() {
	p.newer.older, p.older.newer = p.older, p.newer
}
