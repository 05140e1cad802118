// Package label has names of the domain tree: see ../../shared/DOC.md and doc/01-label.md. What is of names as bytes stands in label.go, what is of their texts in text.go.
package label

import (
	"iter"
	"strings"

	"hardtack/api"
)

const root = "\x00"

func Check(n string) api.Errno {
	if len(n) > api.MaxName {
		return api.ErrForm
	}
	end := 0
	for at := range ends(n) {
		end = at
	}
	if n[end:] != root {
		return api.ErrForm
	}
	return api.OK
}

// Fold goes by bytes, as strings.ToLower would change bytes above 7f, too. (A name's lengths are below 41, so none is taken for a letter.)
func Fold(s string) string {
	small := []byte(s)
	for i, b := range small {
		if 'A' <= b && b <= 'Z' {
			small[i] = b - 'A' + 'a'
		}
	}
	return string(small)
}

func Same(a, b string) bool {
	return Check(a) == api.OK && Check(b) == api.OK && Fold(a) == Fold(b)
}

func Labels(n string) iter.Seq[string] {
	return func(yield func(string) bool) {
		if Check(n) != api.OK {
			return
		}
		start := 0
		for end := range ends(n) {
			if !yield(n[start+1 : end]) {
				return
			}
			start = end
		}
	}
}

func Count(n string) int {
	many := 0
	for range Labels(n) {
		many++
	}
	return many
}

func Parent(n string) (string, api.Errno) {
	if Check(n) != api.OK {
		return "", api.ErrForm
	}
	for end := range ends(n) {
		return n[end:], api.OK
	}
	return "", api.ErrNone
}

// Within looks only at places between labels: the bytes of one label may look like the end of a name.
func Within(n, zone string) bool {
	if Check(n) != api.OK || Check(zone) != api.OK {
		return false
	}
	n, zone = Fold(n), Fold(zone)
	if n == zone {
		return true
	}
	for end := range ends(n) {
		if n[end:] == zone {
			return true
		}
	}
	return false
}

// Join looks at all labels ahead of the length: what is no label is told first, wherever it stands.
func Join(n string, labels ...string) (string, api.Errno) {
	if Check(n) != api.OK {
		return "", api.ErrForm
	}
	size := len(n)
	for _, l := range labels {
		if !isLabel(l) {
			return "", api.ErrForm
		}
		size += 1 + len(l)
	}
	if size > api.MaxName {
		return "", api.ErrLong
	}
	var out strings.Builder
	for _, l := range labels {
		out.WriteByte(byte(len(l)))
		out.WriteString(l)
	}
	out.WriteString(n)
	return out.String(), api.OK
}

// ends tells the place behind each label of n. It does not ask whether n is a name, as Check leans on it: it stops ahead of the first thing that is no whole label (of a name, the byte 0).
func ends(n string) iter.Seq[int] {
	return func(yield func(int) bool) {
		for at := 0; at < len(n); {
			size := int(n[at])
			rest := n[at+1:]
			if size > len(rest) || !isLabel(rest[:size]) {
				return
			}
			at += 1 + size
			if !yield(at) {
				return
			}
		}
	}
}

func isLabel(l string) bool { return 1 <= len(l) && len(l) <= api.MaxLabel }
