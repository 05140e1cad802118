package walk

import (
	"slices"

	"hardtack/api"
	"hardtack/label"
)

// placed keeps a name's place beside it, so that sorting need not make it for each comparison.
type placed struct {
	name  string
	place []string
}

func Less(a, b string) bool {
	if label.Check(a) != api.OK || label.Check(b) != api.OK {
		return false
	}
	return slices.Compare(place(a), place(b)) < 0
}

// Sort has to be stable: of names that are one, the first is left.
func Sort(l ...string) []string {
	var all []placed
	for _, n := range l {
		if label.Check(n) == api.OK {
			all = append(all, placed{n, place(n)})
		}
	}
	slices.SortStableFunc(all, func(a, b placed) int { return slices.Compare(a.place, b.place) })
	all = slices.CompactFunc(all, func(a, b placed) bool { return slices.Equal(a.place, b.place) })
	var names []string
	for _, p := range all {
		names = append(names, p.name)
	}
	return names
}

// place turns the labels round, because names are held against each other as lists of texts are, but from the last label on.
func place(n string) []string {
	labels := slices.Collect(label.Labels(label.Fold(n)))
	slices.Reverse(labels)
	return labels
}
