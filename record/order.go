package record

import (
	"cmp"
	"slices"

	"hardtack/api"
	"hardtack/label"
	"hardtack/rdata"
	"hardtack/walk"
)

// saying is what a record says: it is equal of records that say the same.
type saying struct {
	name  string
	kind  api.RType
	class uint16
	data  string
}

func sayingOf(r api.RR) saying {
	return saying{label.Fold(r.Name), r.Type, r.Class, rdata.Fold(r.Type, r.Data)}
}

func Same(a, b api.RR) bool {
	return Check(a) == api.OK && Check(b) == api.OK && sayingOf(a) == sayingOf(b)
}

func Less(a, b api.RR) bool {
	l := place(a, b)
	return len(l) == 2 && compare(l[0], l[1]) < 0
}

func Sort(l ...api.RR) []api.RR {
	all := place(l...)
	slices.SortFunc(all, compare)
	var sorted []api.RR
	for _, p := range all {
		sorted = append(sorted, p.record)
	}
	return sorted
}

// placed keeps beside a record what it is sorted by, so that sorting need not make it for each comparison: its name's place among those it stands with, and what it says.
type placed struct {
	place  int
	says   saying
	record api.RR
}

// place answers those of l that are right, in the order in which they stand there.
func place(l ...api.RR) []placed {
	right := slices.DeleteFunc(slices.Clone(l), func(r api.RR) bool { return Check(r) != api.OK })
	var names []string
	for _, r := range right {
		names = append(names, r.Name)
	}
	places := map[string]int{}
	for i, n := range walk.Sort(names...) {
		places[label.Fold(n)] = i
	}
	var all []placed
	for _, r := range right {
		says := sayingOf(r)
		all = append(all, placed{places[says.name], says, r})
	}
	return all
}

func compare(a, b placed) int {
	return cmp.Or(
		cmp.Compare(a.place, b.place),
		cmp.Compare(a.says.kind, b.says.kind),
		cmp.Compare(a.says.class, b.says.class),
		cmp.Compare(a.says.data, b.says.data),
		cmp.Compare(a.record.Name, b.record.Name),
		cmp.Compare(a.record.Data, b.record.Data),
		cmp.Compare(a.record.TTL, b.record.TTL),
	)
}
