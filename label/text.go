package label

import (
	"strings"

	"hardtack/api"
)

func Print(n string) (string, api.Errno) {
	if Check(n) != api.OK {
		return "", api.ErrForm
	}
	if n == root {
		return ".", api.OK
	}
	var out strings.Builder
	for l := range Labels(n) {
		for i := range len(l) {
			printByte(&out, l[i])
		}
		out.WriteByte('.')
	}
	return out.String(), api.OK
}

func printByte(out *strings.Builder, b byte) {
	switch {
	case !isPlain(b):
		out.WriteByte('\\')
		out.WriteByte('0' + b/100)
		out.WriteByte('0' + b/10%10)
		out.WriteByte('0' + b%10)
	case b == '.' || b == '\\':
		out.WriteByte('\\')
		out.WriteByte(b)
	default:
		out.WriteByte(b)
	}
}

// Parse reads the whole text before it looks at lengths: what is no text is ErrCode, even where a label is too long.
func Parse(text string) (string, api.Errno) {
	if len(text) > api.MaxText {
		return "", api.ErrLong
	}
	if text == "." {
		return root, api.OK
	}
	labels, why := split(text)
	if why != api.OK {
		return "", why
	}
	for _, l := range labels {
		if len(l) > api.MaxLabel {
			return "", api.ErrLong
		}
	}
	return Join(root, labels...)
}

// split leaves it to Parse to say that a label is too long.
func split(text string) ([]string, api.Errno) {
	var labels []string
	for text != "" {
		l, rest, why := cutLabel(text)
		if why != api.OK {
			return nil, why
		}
		labels = append(labels, l)
		text = rest
	}
	if len(labels) == 0 {
		return nil, api.ErrCode
	}
	return labels, api.OK
}

// cutLabel answers the first label of text, and what is behind its dot.
func cutLabel(text string) (string, string, api.Errno) {
	var l []byte
	for text != "" && text[0] != '.' {
		b, size := readByte(text)
		if size == 0 {
			return "", "", api.ErrCode
		}
		l = append(l, b)
		text = text[size:]
	}
	if len(l) == 0 {
		return "", "", api.ErrCode
	}
	return string(l), strings.TrimPrefix(text, "."), api.OK
}

// readByte answers the first byte that text tells, and how many of its own bytes do so: 0, if text can't go on so.
func readByte(text string) (byte, int) {
	if text[0] != '\\' {
		if isPlain(text[0]) {
			return text[0], 1
		}
		return 0, 0
	}
	if len(text) >= 2 && !isDigit(text[1]) {
		return text[1], 2
	}
	if len(text) >= 4 && isDigit(text[1]) && isDigit(text[2]) && isDigit(text[3]) {
		n := 100*int(text[1]-'0') + 10*int(text[2]-'0') + int(text[3]-'0')
		if n <= 255 {
			return byte(n), 4
		}
	}
	return 0, 0
}

// isPlain tells whether a text may have b as it is.
func isPlain(b byte) bool { return 0x21 <= b && b <= 0x7e }

func isDigit(b byte) bool { return '0' <= b && b <= '9' }
