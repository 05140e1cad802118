package edns

import (
	"iter"

	"hardtack/api"
	"hardtack/pack"
)

// options tells the options that r has from its place on. It stops ahead of what is none, and r is bad then.
func options(r *pack.Reader) iter.Seq[api.Option] {
	return func(yield func(api.Option) bool) {
		for r.Left() > 0 {
			var o api.Option
			o.Code = uint16(r.Num(2))
			o.Data = r.Raw(int(r.Num(2)))
			if r.Bad() || !yield(o) {
				return
			}
		}
	}
}

func optionsOf(data string) ([]api.Option, bool) {
	r := pack.Open(data)
	var l []api.Option
	for o := range options(r) {
		l = append(l, o)
	}
	if r.Bad() {
		return nil, false
	}
	return l, true
}

// dataOf answers false, if the options are more than a record's data may be; a length of more than 2 bytes is among these.
func dataOf(l []api.Option) (string, bool) {
	w := pack.New(api.MaxData)
	for _, o := range l {
		w.Num(2, uint64(o.Code))
		w.Num(2, uint64(len(o.Data)))
		w.Raw(o.Data)
	}
	data, why := w.Out()
	return data, why == api.OK
}
