package sets

import (
	"iter"
	"slices"
	"strings"

	"hardtack/api"
	"hardtack/label"
	"hardtack/rdata"
	"hardtack/record"
)

// owner is what the records of one set have in common: their name, with small letters, and their type.
type owner struct {
	name string
	t    api.RType
}

// datum is a record's data, with what they are when folded.
type datum struct{ small, data string }

// Of leaves records of OPT out, as they are of no name: each stands for its message.
func Of(l ...api.RR) []api.Set {
	places := map[owner]int{}
	var lists [][]api.RR
	for r := range right(l) {
		if r.Type == api.TypeOPT {
			continue
		}
		o := owner{label.Fold(r.Name), r.Type}
		at, known := places[o]
		if !known {
			at = len(lists)
			places[o] = at
			lists = append(lists, nil)
		}
		lists[at] = append(lists[at], r)
	}
	var out []api.Set
	for _, of := range lists {
		out = append(out, gather(of[0].Name, of))
	}
	return out
}

func Find(name string, t api.RType, l ...api.RR) (api.Set, api.Errno) {
	var of []api.RR
	for r := range right(l) {
		if r.Type == t && label.Same(r.Name, name) {
			of = append(of, r)
		}
	}
	if of == nil {
		return api.Set{}, api.ErrNone
	}
	return gather(name, of), api.OK
}

// right tells those records of which sets may be.
func right(l []api.RR) iter.Seq[api.RR] {
	return func(yield func(api.RR) bool) {
		for _, r := range l {
			if r.Class == api.ClassIN && record.Check(r) == api.OK && !yield(r) {
				return
			}
		}
	}
}

// gather makes a set of records that have one owner. Those whose data it has no room for have a say in its TTL, too.
func gather(name string, l []api.RR) api.Set {
	s := api.Set{Name: name, Type: l[0].Type, TTL: l[0].TTL}
	var all []datum
	for _, r := range l {
		s.TTL = min(s.TTL, r.TTL)
		all = append(all, datum{rdata.Fold(r.Type, r.Data), r.Data})
	}
	for _, d := range inOrder(all) {
		s.Data = append(s.Data, d.data)
	}
	return s
}

// inOrder must not change the order of data that are one when folded, as the first of these is the one that stays.
func inOrder(all []datum) []datum {
	slices.SortStableFunc(all, func(a, b datum) int { return strings.Compare(a.small, b.small) })
	all = slices.CompactFunc(all, func(a, b datum) bool { return a.small == b.small })
	return all[:min(len(all), api.MaxItems)]
}
