package message

import (
	"slices"

	"hardtack/api"
	"hardtack/pack"
	"hardtack/record"
)

// head is the numbers ahead of a message's sections: Id, Bits, and how many there are of Asks, Says, Heads and Extra.
type head [6]uint16

func Write(m api.Msg, limit int) (string, api.Errno) {
	if Check(m) != api.OK {
		return "", api.ErrForm
	}
	w := pack.New(min(limit, api.MaxBytes-1))
	for _, n := range headOf(m) {
		w.Num(2, uint64(n))
	}
	for _, q := range m.Asks {
		w.Name(q.Name)
		w.Num(2, uint64(q.Type))
		w.Num(2, uint64(q.Class))
	}
	for section := range sections(&m) {
		for _, r := range *section {
			record.Write(w, r)
		}
	}
	return w.Out()
}

func headOf(m api.Msg) head {
	return head{m.Id, m.Bits, uint16(len(m.Asks)), uint16(len(m.Says)), uint16(len(m.Heads)), uint16(len(m.Extra))}
}

func Fit(m api.Msg, limit int) (string, api.Errno) {
	s, why := Write(m, limit)
	if why == api.ErrLong {
		return Write(cutShort(m), limit)
	}
	return s, why
}

// cutShort keeps OPT records: who asks must learn what they say also if the answers have no room.
func cutShort(m api.Msg) api.Msg {
	m.Bits |= api.BitTC
	m.Says, m.Heads = nil, nil
	m.Extra = slices.DeleteFunc(slices.Clone(m.Extra), func(r api.RR) bool { return r.Type != api.TypeOPT })
	return m
}

func Head(s string) (uint16, uint16, api.Errno) {
	h, why := readHead(pack.Open(s))
	return h[0], h[1], why
}

// Read looks at all counts ahead of what they count: of too many, whatever comes behind, it is ErrLong.
func Read(s string) (api.Msg, api.Errno) {
	r := pack.Open(s)
	h, why := readHead(r)
	if why != api.OK {
		return api.Msg{}, why
	}
	counts := h[2:]
	if slices.Max(counts) > api.MaxRRs {
		return api.Msg{}, api.ErrLong
	}
	m := api.Msg{Id: h[0], Bits: h[1]}
	if why = readSections(r, &m, counts); why != api.OK {
		return api.Msg{}, why
	}
	if r.Left() > 0 {
		return api.Msg{}, api.ErrCode
	}
	return m, api.OK
}

func readHead(r *pack.Reader) (head, api.Errno) {
	var h head
	for i := range h {
		h[i] = uint16(r.Num(2))
	}
	if r.Bad() {
		return head{}, api.ErrShort
	}
	return h, api.OK
}

func readSections(r *pack.Reader, m *api.Msg, counts []uint16) api.Errno {
	var why api.Errno
	if m.Asks, why = list(r, counts[0], readQuestion); why != api.OK {
		return why
	}
	for section := range sections(m) {
		counts = counts[1:]
		if *section, why = list(r, counts[0], record.Read); why != api.OK {
			return why
		}
	}
	return api.OK
}

// list reads so many things, up to the first that is wrong: no room is made for what is only said to come.
func list[T any](r *pack.Reader, many uint16, read func(*pack.Reader) (T, api.Errno)) ([]T, api.Errno) {
	var l []T
	for range many {
		x, why := read(r)
		if why != api.OK {
			return nil, why
		}
		l = append(l, x)
	}
	return l, api.OK
}

func readQuestion(r *pack.Reader) (api.Question, api.Errno) {
	var q api.Question
	q.Name = r.Name()
	q.Type = api.RType(r.Num(2))
	q.Class = uint16(r.Num(2))
	if r.Bad() {
		return api.Question{}, api.ErrShort
	}
	return q, api.OK
}
