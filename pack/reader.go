package pack

import (
	"hardtack/api"
	"hardtack/label"
)

// Reader has no bytes any more once it is bad, so that it answers zero.
type Reader struct {
	bytes string
	at    int
	bad   bool
}

func Open(s string) *Reader { return &Reader{bytes: s} }

func (r *Reader) fail() { *r = Reader{bad: true} }

func (r *Reader) Num(width int) uint64 {
	if !isWidth(width) {
		r.fail()
		return 0
	}
	var b number
	copy(b[len(b)-width:], r.Raw(width))
	return b.value()
}

func (r *Reader) Raw(n int) string {
	if n < 0 || n > r.Left() {
		r.fail()
		return ""
	}
	r.at += n
	return r.bytes[r.at-n : r.at]
}

func (r *Reader) Name() string {
	n, behind := r.name()
	if label.Check(n) != api.OK {
		r.fail()
		return ""
	}
	r.at = behind
	return n
}

// name gathers what stands from the reader's place on, and answers the place behind it, too; it is left to Name to see whether that is one. It goes on no longer than a name may be, however many labels there are.
func (r *Reader) name() (string, int) {
	var n []byte
	at, from, behind, pointed := r.at, r.at, r.at, false
gather:
	for len(n) < api.MaxName {
		piece := r.piece(at)
		at += len(piece)
		if !pointed {
			behind = at
		}
		switch {
		case piece == "":
			break gather
		case isPointer(piece[0]):
			pointed = true
			at = target(piece)
			if at >= from {
				break gather
			}
			from = at
		default:
			n = append(n, piece...)
			if piece == root {
				break gather
			}
		}
	}
	return string(n), behind
}

// piece answers what stands at a place of a name, if it is whole: a label with its length (which may be too great for one), a pointer, or the byte 0.
func (r *Reader) piece(at int) string {
	if at >= len(r.bytes) {
		return ""
	}
	size := 1 + int(r.bytes[at])
	if isPointer(r.bytes[at]) {
		size = 2
	}
	if size > len(r.bytes)-at {
		return ""
	}
	return r.bytes[at : at+size]
}

func isPointer(first byte) bool { return first >= mark>>8 }

func target(pointer string) int {
	return (int(pointer[0])<<8 | int(pointer[1])) % reach
}

// Part answers a reader that has all bytes ahead of its own, too, as names point to them.
func (r *Reader) Part(n int) *Reader {
	at := r.at
	r.Raw(n)
	if r.bad {
		return &Reader{bad: true}
	}
	return &Reader{bytes: r.bytes[:r.at], at: at}
}

func (r *Reader) At() int { return r.at }

func (r *Reader) Left() int { return len(r.bytes) - r.at }

func (r *Reader) Bad() bool { return r.bad }
