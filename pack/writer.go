package pack

import (
	"hardtack/api"
	"hardtack/label"
)

// Writer is full as soon as a piece did not fit: no later one is written, though it may be short enough.
type Writer struct {
	bytes []byte
	limit int
	full  bool
	rests map[string]int
}

func New(limit int) *Writer {
	return &Writer{limit: limit, rests: map[string]int{}}
}

func (w *Writer) Num(width int, n uint64) {
	if !isWidth(width) {
		return
	}
	b := numberOf(n)
	w.Raw(string(b[len(b)-width:]))
}

// Raw writes one piece, as all that is written goes through it. A text without bytes is none: it fits even behind a limit below 0.
func (w *Writer) Raw(s string) {
	if s == "" || w.full {
		return
	}
	if len(w.bytes)+len(s) > w.limit {
		w.full = true
		return
	}
	w.bytes = append(w.bytes, s...)
}

func (w *Writer) Name(n string) { w.name(n, true) }

func (w *Writer) Full(n string) { w.name(n, false) }

func (w *Writer) name(n string, points bool) {
	if label.Check(n) != api.OK {
		return
	}
	rest := n
	for l := range label.Labels(n) {
		if at, known := w.rests[rest]; known && points {
			w.Num(2, uint64(mark|at))
			return
		}
		size := 1 + len(l)
		w.start(rest, rest[:size])
		rest = rest[size:]
	}
	w.Raw(root)
}

// start writes the first label of the rest of a name. The rest is noted only if that was written, or a full writer would hold more and more of them.
func (w *Writer) start(rest, first string) {
	at := len(w.bytes)
	w.Raw(first)
	if _, known := w.rests[rest]; !known && !w.full && at < reach {
		w.rests[rest] = at
	}
}

// Set holds the place against the bytes less two, as the place and two more may be too great for an int.
func (w *Writer) Set(at int, n uint16) {
	if at < 0 || at > len(w.bytes)-2 {
		return
	}
	b := numberOf(uint64(n))
	copy(w.bytes[at:], b[len(b)-2:])
}

func (w *Writer) Len() int { return len(w.bytes) }

func (w *Writer) Out() (string, api.Errno) {
	if w.full {
		return "", api.ErrLong
	}
	return string(w.bytes), api.OK
}
