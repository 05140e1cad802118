package record_test

import (
	"strings"
	"testing"

	"hardtack/api"
	"hardtack/record"
)

func TestLine(t *testing.T) {
	for _, c := range []struct {
		r    api.RR
		line string
	}{
		{api.RR{Name: root, Type: api.TypeOPT, Class: 0, TTL: 0, Data: ""}, ". 0 0 41 -"},
		{api.RR{Name: root, Type: api.TypeOPT, Class: 65535, TTL: 1<<32 - 1, Data: "\xff"}, ". 4294967295 65535 41 ff"},
		{api.RR{Name: org, Type: api.TypeA, Class: 1, TTL: api.MaxTTL, Data: "\x00\x0a\xa0\xbf"}, "org. 2147483647 1 1 000aa0bf"},
		{api.RR{Name: wwwEx, Type: api.TypeNS, Class: 3, TTL: 60, Data: "\x01J\x00"}, "www.Ex.ORG. 60 3 2 014a00"},
		{api.RR{Name: "\x03a.b\x02 -\x03\\\x00\xff\x00", Type: 65535, Class: 1, TTL: 1000, Data: "- 0"}, "a\\.b.\\032-.\\\\\\000\\255. 1000 1 65535 2d2030"},
		{api.RR{Name: "\x01-\x00", Type: 0, Class: 10, TTL: 100, Data: "\x01\x23\x45\x67\x89\xab\xcd\xef"}, "-. 100 10 0 0123456789abcdef"},
		{api.RR{Name: "\x011\x00", Type: 99, Class: 1, TTL: 1, Data: strings.Repeat("\xba", api.MaxData)}, "1. 1 1 99 " + strings.Repeat("ba", api.MaxData)},
	} {
		if got, why := record.Line(c.r); got != c.line || why != api.OK {
			t.Errorf("5.3: Line(%#v) = %q, %d, not %q", c.r, got, why, c.line)
		}
		if got, why := record.Parse(c.line); got != c.r || why != api.OK {
			t.Errorf("5.3: Parse(%q) = %#v, %d", c.line, got, why)
		}
	}
	for _, c := range wrong() {
		if got, why := record.Line(c.r); got != "" || why != api.ErrForm {
			t.Errorf("5.3: Line of %s = %q, %d, not ErrForm", c.what, got, why)
		}
	}
}

// noLines are texts that are no record's line, each for another cause.
func noLines() map[string]string {
	wideText := strings.Repeat("w", 63) + "."
	return map[string]string{
		"nothing":                         "",
		"a blank":                         " ",
		"blanks":                          "    ",
		"a name":                          "a.",
		"no data":                         "a. 60 1 2",
		"no data behind a blank":          "a. 60 1 2 ",
		"no name":                         " 60 1 1 01020304",
		"no time":                         "a. 1 1 01020304",
		"a word more":                     "a. 60 1 1 01020304 -",
		"a blank behind":                  "a. 60 1 1 01020304 ",
		"a blank ahead":                   " a. 60 1 1 01020304",
		"two blanks":                      "a. 60  1 1 01020304",
		"two blanks, and a word fewer":    "a.  60 1 1",
		"a tab":                           "a. 60\t1 1 01020304",
		"a new line":                      "a. 60 1 1 01020304\n",
		"a name without its last dot":     "a 60 1 1 01020304",
		"a name of two dots":              "a.. 60 1 1 01020304",
		"a dot ahead":                     ".a. 60 1 1 01020304",
		"a letter in digits":              "\\097. 60 1 1 01020304",
		"a needless \\":                   "\\a. 60 1 1 01020304",
		"a blank behind a \\":             "\\ . 60 1 1 01020304",
		"a byte 20 that is not in digits": "a\\ b. 60 1 1 01020304",
		"a dot in digits":                 "\\046. 60 1 1 01020304",
		"an end within a \\":              "a\\ 60 1 1 01020304",
		"a byte above 7e":                 "\xff. 60 1 1 01020304",
		"a label of 64 bytes":             "w" + wideText + " 60 1 1 01020304",
		"a name of 256 bytes":             strings.Repeat(wideText, 3) + wideText[1:] + " 60 1 1 01020304",
		"a time with a nought":            "a. 060 1 1 01020304",
		"a time of two noughts":           "a. 00 1 1 01020304",
		"a class with a nought":           "a. 60 01 1 01020304",
		"a type with a nought":            "a. 60 1 01 01020304",
		"a time with a sign":              "a. +60 1 1 01020304",
		"a time below 0":                  "a. -1 1 1 01020304",
		"a time of letters":               "a. 6o 1 1 01020304",
		"a time in hexadecimal digits":    "a. 0x3c 1 1 01020304",
		"a time with a line":              "a. 6_0 1 1 01020304",
		"a time with a point":             "a. 60.0 1 1 01020304",
		"an empty class":                  "a. 60  1 01020304",
		"a time that is too great":        "a. 2147483648 1 1 01020304",
		"a time of more than 32 bits":     "a. 4294967296 1 41 -",
		"a time that goes round":          "a. 4294967356 1 1 01020304",
		"a time of more than 64 bits":     "a. 18446744073709551676 1 1 01020304",
		"a class of more than 16 bits":    "a. 60 65536 1 01020304",
		"a class that goes round":         "a. 60 65537 1 01020304",
		"a type of more than 16 bits":     "a. 60 1 65536 01020304",
		"a type that goes round":          "a. 60 1 65537 01020304",
		"great letters in data":           "a. 60 1 1 0A020304",
		"a digit too few":                 "a. 60 1 1 0102030",
		"a digit too many":                "a. 60 1 99 010203040",
		"one digit":                       "a. 60 1 99 0",
		"no hexadecimal digits":           "a. 60 1 1 0102030g",
		"a sign in data":                  "a. 60 1 99 +1",
		"0x ahead of data":                "a. 60 1 99 0x01",
		"a - in data":                     "a. 60 1 99 01-",
		"two -":                           "a. 60 1 99 --",
		"a -, and data":                   "a. 60 1 99 -01",
		"data that are not right":         "a. 60 1 1 010203",
		"no data, of A":                   "a. 60 1 1 -",
		"NS of no name":                   "a. 60 1 2 0161",
		"NS of a pointer":                 "a. 60 1 2 c000",
		"too many data":                   "a. 60 1 99 " + strings.Repeat("00", api.MaxData+1),
		"a class by its name":             "a. 60 IN 1 01020304",
		"a type by its name":              "a. 60 1 A 01020304",
		"a long text":                     strings.Repeat("a", 1<<20),
		"a long name":                     strings.Repeat("a.", 1<<20) + " 60 1 1 01020304",
		"many blanks":                     strings.Repeat(" ", 1<<20),
	}
}

func TestParseOfNoLine(t *testing.T) {
	for what, line := range noLines() {
		if got, why := record.Parse(line); got != (api.RR{}) || why != api.ErrCode {
			t.Errorf("5.3: Parse of a line with %s = %#v, %d, not ErrCode", what, got, why)
		}
	}
}

// TestParseOfWhatIsNearALine holds Parse against Line, of lines in which a byte is another one, or missing.
func TestParseOfWhatIsNearALine(t *testing.T) {
	const line = "a\\.b.\\000. 60 1 2 0142014100"
	met := 0
	for at := range len(line) {
		turned := []string{line[:at] + line[at+1:]}
		for b := range 256 {
			turned = append(turned, line[:at]+string([]byte{byte(b)})+line[at+1:], line[:at]+string([]byte{byte(b)})+line[at:])
		}
		for _, text := range turned {
			r, why := record.Parse(text)
			if why != api.OK {
				if why != api.ErrCode || r != (api.RR{}) {
					t.Errorf("5.3: Parse(%q) = %#v, %d", text, r, why)
				}
				continue
			}
			met++
			if back, why := record.Line(r); back != text || why != api.OK {
				t.Errorf("5.3: Parse(%q) = %#v, the line of which is %q, %d", text, r, back, why)
			}
		}
	}
	if met < 100 {
		t.Errorf("5.3: only %d were lines", met)
	}
}
