// Package walk goes through the tree of names: see ../../shared/DOC.md and doc/02-walk.md. What goes up and down stands in walk.go, the order in order.go.
package walk

import (
	"iter"

	"hardtack/api"
	"hardtack/label"
)

func Up(n string) iter.Seq[string] {
	return func(yield func(string) bool) {
		why := label.Check(n)
		for at := n; why == api.OK; at, why = label.Parent(at) {
			if !yield(at) {
				return
			}
		}
	}
}

func Common(a, b string) (string, api.Errno) {
	for up := range Up(a) {
		if label.Within(b, up) {
			return up, api.OK
		}
	}
	// As all names lie within the root, one of these was none.
	return "", api.ErrForm
}

func Depth(n, zone string) int {
	if !label.Within(n, zone) {
		return -1
	}
	return label.Count(n) - label.Count(zone)
}

func Next(zone, n string) (string, api.Errno) {
	if label.Check(zone) != api.OK || label.Check(n) != api.OK {
		return "", api.ErrForm
	}
	for up := range Up(n) {
		if Depth(up, zone) == 1 {
			return up, api.OK
		}
	}
	return "", api.ErrNone
}

func Deepest(n string, l ...string) (string, api.Errno) {
	if label.Check(n) != api.OK {
		return "", api.ErrForm
	}
	deepest, most := "", -1
	for _, zone := range l {
		if many := label.Count(zone); many > most && label.Within(n, zone) {
			deepest, most = zone, many
		}
	}
	if most < 0 {
		return "", api.ErrNone
	}
	return deepest, api.OK
}
