package rdata

import (
	"hardtack/api"
	"hardtack/pack"
)

// form is how data with names are made: so many numbers of 2 bytes, names, and numbers of 4 bytes.
type form struct{ shorts, names, longs int }

// formOf answers no form for a type whose data have no names.
func formOf(t api.RType) (form, bool) {
	switch t {
	case api.TypeNS, api.TypeCNAME, api.TypePTR:
		return form{names: 1}, true
	case api.TypeMX:
		return form{shorts: 1, names: 1}, true
	case api.TypeSRV:
		return form{shorts: 3, names: 1}, true
	case api.TypeSOA:
		return form{names: 2, longs: 5}, true
	}
	return form{}, false
}

// carry brings data from r to w, piece by piece, and hands each name over to name.
func carry(t api.RType, r *pack.Reader, w *pack.Writer, name func(string)) {
	f, named := formOf(t)
	if !named {
		w.Raw(r.Raw(r.Left()))
		return
	}
	for range f.shorts {
		w.Num(2, r.Num(2))
	}
	for range f.names {
		name(r.Name())
	}
	for range f.longs {
		w.Num(4, r.Num(4))
	}
}

// plain answers the data that are all that is left of r, with their names without pointers: false, if they are not right then.
func plain(t api.RType, r *pack.Reader) (string, bool) {
	w := pack.New(api.MaxData)
	carry(t, r, w, w.Full)
	data, why := w.Out()
	if why != api.OK || r.Bad() || r.Left() > 0 || !fits(t, data) {
		return "", false
	}
	return data, true
}

// isRight holds data against what is read of them, as names with pointers can be read, but may not stand in data.
func isRight(t api.RType, data string) bool {
	read, ok := plain(t, pack.Open(data))
	return ok && read == data
}

// fits looks at what data without names must be.
func fits(t api.RType, data string) bool {
	switch t {
	case api.TypeA:
		return len(data) == 4
	case api.TypeAAAA:
		return len(data) == 16
	case api.TypeTXT:
		_, ok := texts(data)
		return ok
	}
	return true
}

func texts(data string) ([]string, bool) {
	var l []string
	r := pack.Open(data)
	for r.Left() > 0 {
		l = append(l, r.Raw(int(r.Num(1))))
	}
	if r.Bad() || l == nil {
		return nil, false
	}
	return l, true
}
