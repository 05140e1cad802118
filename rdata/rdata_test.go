package rdata_test

import (
	"slices"
	"strings"
	"testing"

	"hardtack/api"
	"hardtack/rdata"
)

// datum is right data of a type, with what the chapter says of them.
type datum struct {
	what  string
	t     api.RType
	data  string
	names []string
	fold  string
}

const (
	a1   = "\x01A\x00"
	org  = "\x03www\x02Ex\x03ORG\x00"
	org2 = "\x03www\x02ex\x03org\x00"
	tail = "\x00\x00\x00\x01\x41\x42\x43\x44ABCDabcd\xff\xfe\xfd\xfc"
)

func name255(l string) string {
	out := ""
	for _, many := range []int{63, 63, 63, 61} {
		out += string([]byte{byte(many)}) + strings.Repeat(l, many)
	}
	return out + "\x00"
}

func text(s string) string { return string([]byte{byte(len(s))}) + s }

func right() []datum {
	wide, narrow := name255("Q"), name255("q")
	long := strings.Repeat(text(strings.Repeat("T", 255)), 16)
	var all []datum
	for _, t := range []api.RType{api.TypeNS, api.TypeCNAME, api.TypePTR} {
		all = append(all,
			datum{"a name", t, org, []string{org}, org2},
			datum{"the root", t, "\x00", []string{"\x00"}, "\x00"},
			datum{"the widest name", t, wide, []string{wide}, narrow})
	}
	all = append(all,
		datum{"4 bytes", api.TypeA, "\x01\x02AZ", nil, "\x01\x02AZ"},
		datum{"4 bytes of 0", api.TypeA, "\x00\x00\x00\x00", nil, "\x00\x00\x00\x00"},
		datum{"16 bytes", api.TypeAAAA, "0123456789ABCDEF", nil, "0123456789ABCDEF"},
		datum{"a number and a name", api.TypeMX, "AB" + org, []string{org}, "AB" + org2},
		datum{"a number and the root", api.TypeMX, "\x00\x00\x00", []string{"\x00"}, "\x00\x00\x00"},
		datum{"a number and the widest name", api.TypeMX, "\x00\x05" + wide, []string{wide}, "\x00\x05" + narrow},
		datum{"three numbers and a name", api.TypeSRV, "ABCDEF" + org, []string{org}, "ABCDEF" + org2},
		datum{"three numbers and the root", api.TypeSRV, "\x01A\x00\x00\x00\x00\x00", []string{"\x00"}, "\x01A\x00\x00\x00\x00\x00"},
		datum{"two names and numbers", api.TypeSOA, org + a1 + tail, []string{org, a1}, org2 + "\x01a\x00" + tail},
		datum{"two roots and numbers", api.TypeSOA, "\x00\x00" + tail + "", []string{"\x00", "\x00"}, "\x00\x00" + tail},
		datum{"two widest names and numbers", api.TypeSOA, wide + wide + tail, []string{wide, wide}, narrow + narrow + tail},
		datum{"a text", api.TypeTXT, text("Text"), nil, text("Text")},
		datum{"an empty text", api.TypeTXT, "\x00", nil, "\x00"},
		datum{"texts", api.TypeTXT, text("A") + text("") + text("\x01B\x00") + text(""), nil, text("A") + text("") + text("\x01B\x00") + text("")},
		datum{"as many texts as may be", api.TypeTXT, long, nil, long},
	)
	for _, t := range []api.RType{0, 3, 13, api.TypeOPT, api.TypeANY, 99, 257, 65535} {
		for _, data := range []string{"", "\x00", a1, "\x03ab", "\xc0\x00", strings.Repeat("A", api.MaxData)} {
			all = append(all, datum{"any bytes", t, data, nil, data})
		}
	}
	return all
}

// wrong are data that are not right, each for another cause.
type wrongs struct {
	what string
	t    api.RType
	data string
}

func wrong() []wrongs {
	long := strings.Repeat("A", api.MaxData+1)
	wide := name255("q")
	var all []wrongs
	for _, t := range []api.RType{api.TypeNS, api.TypeCNAME, api.TypePTR} {
		all = append(all,
			wrongs{"nothing", t, ""},
			wrongs{"no byte 0", t, "\x01a"},
			wrongs{"half a label", t, "\x03ab"},
			wrongs{"something behind the name", t, a1 + "!"},
			wrongs{"two names", t, a1 + a1},
			wrongs{"a pointer", t, "\xc0\x00"},
			wrongs{"a pointer behind a label", t, "\x01a\xc0\x00"},
			wrongs{"a label of 64 bytes", t, "\x40" + strings.Repeat("a", 64) + "\x00"},
			wrongs{"too long a name", t, "\x01a" + wide},
			wrongs{"too long", t, long})
	}
	return append(all,
		wrongs{"nothing", api.TypeA, ""},
		wrongs{"3 bytes", api.TypeA, "abc"},
		wrongs{"5 bytes", api.TypeA, "abcde"},
		wrongs{"15 bytes", api.TypeAAAA, "0123456789abcde"},
		wrongs{"17 bytes", api.TypeAAAA, "0123456789abcdefg"},
		wrongs{"4 bytes", api.TypeAAAA, "abcd"},
		wrongs{"nothing", api.TypeMX, ""},
		wrongs{"a byte", api.TypeMX, "\x00"},
		wrongs{"a number alone", api.TypeMX, "\x00\x05"},
		wrongs{"a name alone", api.TypeMX, org},
		wrongs{"something behind", api.TypeMX, "\x00\x05" + a1 + "\x00"},
		wrongs{"a pointer", api.TypeMX, "\x00\x00\xc0\x00"},
		wrongs{"too long a name", api.TypeMX, "\x00\x05\x01a" + wide},
		wrongs{"numbers alone", api.TypeSRV, "\x00\x01\x00\x02\x00\x03"},
		wrongs{"two numbers and a name", api.TypeSRV, "\x00\x01\x00\x02\x03abc"},
		wrongs{"something behind", api.TypeSRV, "\x00\x01\x00\x02\x00\x03" + a1 + "!"},
		wrongs{"a pointer", api.TypeSRV, "\x00\x01\x00\x02\x00\x00\xc0\x05"},
		wrongs{"nothing", api.TypeSOA, ""},
		wrongs{"a name alone", api.TypeSOA, "\x00"},
		wrongs{"names alone", api.TypeSOA, org + a1},
		wrongs{"one name and numbers", api.TypeSOA, "\x04abcd\x00" + "\x7f\x7f" + tail[2:]},
		wrongs{"a byte too few", api.TypeSOA, a1 + a1 + tail[1:]},
		wrongs{"a byte too many", api.TypeSOA, a1 + a1 + tail + "!"},
		wrongs{"a pointer to the first name", api.TypeSOA, a1 + "\xc0\x00" + tail},
		wrongs{"a pointer, and a byte for it", api.TypeSOA, a1 + "\xc0\x00" + tail + "\x00"},
		wrongs{"nothing", api.TypeTXT, ""},
		wrongs{"a length alone", api.TypeTXT, "\x01"},
		wrongs{"half a text", api.TypeTXT, "\x03ab"},
		wrongs{"half a text behind another", api.TypeTXT, text("abc") + "\x02a"},
		wrongs{"texts that are too long", api.TypeTXT, strings.Repeat("\x00", api.MaxData+1)},
		wrongs{"too long", 99, long},
		wrongs{"too long", api.TypeOPT, long},
		wrongs{"far too long", 0, strings.Repeat("A", 1<<20)},
	)
}

func TestCheck(t *testing.T) {
	for _, d := range right() {
		if why := rdata.Check(d.t, d.data); why != api.OK {
			t.Errorf("4.1: Check(%d) of %s = %d", d.t, d.what, why)
		}
	}
	for _, d := range wrong() {
		if why := rdata.Check(d.t, d.data); why != api.ErrForm {
			t.Errorf("4.1: Check(%d) of %s = %d, not ErrForm", d.t, d.what, why)
		}
	}
}

func TestNames(t *testing.T) {
	for _, d := range right() {
		if got := rdata.Names(d.t, d.data); !slices.Equal(got, d.names) {
			t.Errorf("4.1: Names(%d) of %s = %q, not %q", d.t, d.what, got, d.names)
		}
	}
	for _, d := range wrong() {
		if got := rdata.Names(d.t, d.data); len(got) != 0 {
			t.Errorf("4.1: Names(%d) of %s = %q", d.t, d.what, got)
		}
	}
}

func TestNamesAreOnesOwn(t *testing.T) {
	soa := org + a1 + tail
	rdata.Names(api.TypeSOA, soa)[0] = "changed"
	if got := rdata.Names(api.TypeSOA, soa); !slices.Equal(got, []string{org, a1}) {
		t.Errorf("4.1: Names of SOA = %q, once an answer was changed", got)
	}
}

func TestFold(t *testing.T) {
	for _, d := range right() {
		if got := rdata.Fold(d.t, d.data); got != d.fold {
			t.Errorf("4.1: Fold(%d) of %s = %q, not %q", d.t, d.what, got, d.fold)
		}
		if got := rdata.Fold(d.t, d.fold); got != d.fold {
			t.Errorf("4.1: Fold(%d) of %s, folded = %q", d.t, d.what, got)
		}
	}
	for _, d := range wrong() {
		if got := rdata.Fold(d.t, d.data); got != d.data {
			t.Errorf("4.1: Fold(%d) of %s = %q", d.t, d.what, got)
		}
		great := strings.ToUpper(d.data)
		if rdata.Check(d.t, great) != api.OK && rdata.Fold(d.t, great) != great {
			t.Errorf("4.1: Fold(%d) of %s, in great letters, is another one", d.t, d.what)
		}
	}
}

func TestAddr(t *testing.T) {
	for data, want := range map[string]uint32{
		"\x00\x00\x00\x00": 0,
		"\x01\x02\x03\x04": 0x01020304,
		"\xff\xff\xff\xff": 0xffffffff,
		"\xc0\x00\x02\x01": 0xc0000201,
		"ABCD":             0x41424344,
	} {
		if got, why := rdata.Addr(data); got != want || why != api.OK {
			t.Errorf("4.1: Addr(%q) = %x, %d", data, got, why)
		}
	}
	for _, data := range []string{"", "a", "abc", "abcde", "0123456789abcdef", strings.Repeat("a", api.MaxData+1)} {
		if got, why := rdata.Addr(data); got != 0 || why != api.ErrForm {
			t.Errorf("4.1: Addr(%q) = %x, %d", data, got, why)
		}
	}
}

func TestLeast(t *testing.T) {
	wide := name255("q")
	for soa, want := range map[string]uint32{
		"\x00\x00" + tail:  0xfffefdfc,
		org + a1 + tail:    0xfffefdfc,
		wide + wide + tail: 0xfffefdfc,
		"\x00\x00" + tail[:16] + "\x00\x00\x00\x09": 9,
		"\x00\x00" + tail[:16] + "\x01\x02\x03\x04": 0x01020304,
	} {
		if got, why := rdata.Least(soa); got != want || why != api.OK {
			t.Errorf("4.1: Least(%q) = %x, %d", soa, got, why)
		}
	}
	for _, d := range wrong() {
		if d.t != api.TypeSOA {
			continue
		}
		if got, why := rdata.Least(d.data); got != 0 || why != api.ErrForm {
			t.Errorf("4.1: Least of %s = %x, %d", d.what, got, why)
		}
	}
}

func TestTexts(t *testing.T) {
	for _, want := range [][]string{
		{""},
		{"a"},
		{"", ""},
		{"a", "", "Bc\x00\xff", strings.Repeat("d", 255)},
		slices.Repeat([]string{""}, api.MaxData),
		slices.Repeat([]string{strings.Repeat("x", 255)}, 16),
	} {
		data := ""
		for _, s := range want {
			data += text(s)
		}
		if got, why := rdata.Texts(data); !slices.Equal(got, want) || why != api.OK {
			t.Errorf("4.1: Texts(%q) = %q, %d", data, got, why)
		}
	}
	for _, d := range wrong() {
		if d.t != api.TypeTXT {
			continue
		}
		if got, why := rdata.Texts(d.data); len(got) != 0 || why != api.ErrForm {
			t.Errorf("4.1: Texts of %s = %q, %d", d.what, got, why)
		}
	}
}
