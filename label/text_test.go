package label_test

import (
	"fmt"
	"math/rand/v2"
	"strings"
	"testing"

	"hardtack/api"
	"hardtack/label"
)

// written is how a text has the byte i, by the chapter's words.
func written(i int) string {
	switch {
	case i == '.' || i == '\\':
		return "\\" + string(rune(i))
	case 0x21 <= i && i <= 0x7e:
		return string(rune(i))
	}
	return fmt.Sprintf("\\%03d", i)
}

func TestPrintEachByte(t *testing.T) {
	for i := range 256 {
		n, want := wire("x"+string([]byte{byte(i)})+"Y", "b"), "x"+written(i)+"Y.b."
		if got, why := label.Print(n); got != want || why != api.OK {
			t.Errorf("1.3: Print(%q) = %q, %d", n, got, why)
		}
	}
}

func TestPrint(t *testing.T) {
	for n, want := range map[string]string{
		"\x00":                        ".",
		"\x01a\x00":                   "a.",
		"\x03www\x04Ex.a\x03Org\x00":  "www.Ex\\.a.Org.",
		"\x03\x00 \x7f\x00":           "\\000\\032\\127.",
		"\x02\x09\xff\x01\\\x01.\x00": "\\009\\255.\\\\.\\..",
		wire(wide(61)...):             strings.Join(wide(61), ".") + ".",
	} {
		if got, why := label.Print(n); got != want || why != api.OK {
			t.Errorf("1.3: Print(%q) = %q, %d", n, got, why)
		}
	}
	for what, n := range noNames() {
		if got, why := label.Print(n); got != "" || why != api.ErrForm {
			t.Errorf("1.3: Print of %s = %q, %d", what, got, why)
		}
	}
}

func TestParse(t *testing.T) {
	full := strings.Repeat("f", 63)
	for text, want := range map[string]string{
		".":                                  "\x00",
		"a":                                  "\x01a\x00",
		"a.":                                 "\x01a\x00",
		"www.Ex\\.a.org":                     "\x03www\x04Ex.a\x03org\x00",
		"www.Ex\\.a.org.":                    "\x03www\x04Ex.a\x03org\x00",
		"\\.":                                "\x01.\x00",
		"\\..":                               "\x01.\x00",
		"a\\.":                               "\x02a.\x00",
		"\\\\":                               "\x01\\\x00",
		"\\\\.b":                             "\x01\\\x01b\x00",
		"\\000.\\255":                        "\x01\x00\x01\xff\x00",
		"\\046\\092":                         "\x02.\\\x00",
		"\\0650":                             "\x02A0\x00",
		"\\a\\A\\-":                          "\x03aA-\x00",
		"\\ \\\x00\\\x7f\\\xff":              "\x04 \x00\x7f\xff\x00",
		"!~0-_*":                             "\x06!~0-_*\x00",
		full:                                 wire(full),
		full + ".":                           wire(full),
		strings.Repeat("\\102", 63) + ".f":   wire(full, "f"),
		strings.Repeat("\\f", 63):            wire(full),
		strings.Join(wide(61), "."):          wire(wide(61)...),
		strings.Join(wide(61), ".") + ".":    wire(wide(61)...),
		strings.Repeat("z.", 127):            strings.Repeat("\x01z", 127) + "\x00",
		strings.Repeat("z.", 126) + "z":      strings.Repeat("\x01z", 127) + "\x00",
		strings.Repeat("z.", 125) + "\\122.": strings.Repeat("\x01z", 126) + "\x00",
	} {
		if got, why := label.Parse(text); got != want || why != api.OK {
			t.Errorf("1.3: Parse(%q) = %q, %d", text, got, why)
		}
	}
}

func TestParseEachByte(t *testing.T) {
	for i := range 256 {
		b := string([]byte{byte(i)})
		want := wire("x" + b + "y")
		parses(t, fmt.Sprintf("x\\%03dy", i), want)
		parses(t, "x"+written(i)+"y.", want)
		if i < '0' || '9' < i {
			parses(t, "x\\"+b+"y", want)
		} else {
			refuses(t, "x\\"+b+"y", api.ErrCode)
		}
		switch {
		case i == '.':
			parses(t, "x"+b+"y", wire("x", "y"))
		case i == '\\':
			parses(t, "x"+b+"y", wire("xy"))
		case i < 0x21 || 0x7e < i:
			refuses(t, "x"+b+"y", api.ErrCode)
			refuses(t, b, api.ErrCode)
		default:
			parses(t, "x"+b+"y", want)
		}
	}
}

func parses(t *testing.T, text, want string) {
	t.Helper()
	if got, why := label.Parse(text); got != want || why != api.OK {
		t.Errorf("1.3: Parse(%q) = %q, %d, not %q", text, got, why, want)
	}
}

func refuses(t *testing.T, text string, want api.Errno) {
	t.Helper()
	if got, why := label.Parse(text); got != "" || why != want {
		t.Errorf("1.3: Parse(%q) = %q, %d, not %d", text, got, why, want)
	}
}

func TestParseNumbers(t *testing.T) {
	for i := range 1000 {
		text := fmt.Sprintf("\\%03d.", i)
		if i <= 255 {
			parses(t, text, wire(string([]byte{byte(i)})))
		} else {
			refuses(t, text, api.ErrCode)
		}
	}
}

func TestParseNoText(t *testing.T) {
	for _, text := range []string{
		"",
		"..", "...", ".a", "a..", "a..b", "a...", ".a.b", "\\...",
		"\\", "a\\", "a.b\\", "a.\\", "\\\\\\",
		"\\1", "\\12", "a.\\25", "\\1.", "\\12.", "\\1a2", "\\12a", "\\1\\12", "\\25\\5", "\\2 5", "\\12/", "\\12:", "\\1/2", "\\1:2",
		"\\256", "\\260", "\\300", "\\999", "a\\256.b",
		" ", "a b", "a ", " a", "a\tb", "a\n", "\x00", "\x01a\x00", "a\x1f", "a\x7f", "a\x80", "\xc3\xa9", "a\xff", "a.\xffb",
	} {
		refuses(t, text, api.ErrCode)
	}
}

func TestParseTooLong(t *testing.T) {
	big := strings.Repeat("a", 64)
	for _, text := range []string{
		big, big + ".", "x." + big + ".y",
		strings.Repeat("\\097", 64),
		strings.Repeat("\\.", 64),
		strings.Join(wide(62), "."),
		strings.Join(wide(62), ".") + ".",
		strings.Join(wide(61), ".") + ".x",
		strings.Repeat("z.", 128),
		strings.Repeat("a", 256), strings.Repeat("a", 257), strings.Repeat("a", 320),
	} {
		refuses(t, text, api.ErrLong)
	}
}

// TestParseOrder: the text's length is told first, then that it is no text, then lengths of labels and names.
func TestParseOrder(t *testing.T) {
	big := strings.Repeat("a", 64)
	for _, text := range []string{
		big + "..", big + ".\\256", big + "\\", big + " ", "\x7f" + big, "." + big,
		strings.Join(wide(62), ".") + "..b", strings.Repeat("z.", 200) + ".", strings.Repeat("z.", 200) + "\\2",
	} {
		refuses(t, text, api.ErrCode)
	}
	most := api.MaxText
	refuses(t, strings.Repeat("a", most), api.ErrLong)
	refuses(t, strings.Repeat("a", most+1), api.ErrLong)
	refuses(t, strings.Repeat("z.", most/2), api.ErrLong)
	for _, fault := range []string{" ", ".", "\\", "\x00"} {
		text := strings.Repeat(".", most-1) + fault
		refuses(t, text, api.ErrCode)
		refuses(t, text+"a", api.ErrLong)
		text = strings.Repeat("a", most-2) + "." + fault
		refuses(t, text, api.ErrCode)
		refuses(t, "a"+text, api.ErrLong)
	}
	refuses(t, strings.Repeat(" ", 1<<20), api.ErrLong)
}

func TestThereAndBack(t *testing.T) {
	all := names()
	draw := rand.New(rand.NewPCG(7873, 9018))
	for range 2000 {
		all = append(all, drawn(draw))
	}
	for _, n := range all {
		text, why := label.Print(n)
		if why != api.OK {
			t.Errorf("1.4: Print(%q) = %d", n, why)
		}
		if len(text) > api.MaxText {
			t.Errorf("1.4: the text of %q is too long", n)
		}
		if back, why := label.Parse(text); back != n || why != api.OK {
			t.Errorf("1.4: %q is %q, and that is %q, %d", n, text, back, why)
		}
		if n == "\x00" {
			continue
		}
		if back, why := label.Parse(strings.TrimSuffix(text, ".")); back != n || why != api.OK {
			t.Errorf("1.4: %q without its last dot is %q, %d", text, back, why)
		}
	}
}

// drawn is any name, of labels of any bytes.
func drawn(draw *rand.Rand) string {
	n := "\x00"
	for range draw.IntN(6) {
		l := make([]byte, 1+draw.IntN(63))
		for i := range l {
			l[i] = byte(draw.Uint32())
		}
		if longer := string([]byte{byte(len(l))}) + string(l) + n; len(longer) <= api.MaxName {
			n = longer
		}
	}
	return n
}
