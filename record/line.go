package record

import (
	"strconv"
	"strings"

	"hardtack/api"
	"hardtack/label"
)

const (
	digits = "0123456789abcdef"
	noData = "-"
)

func Line(r api.RR) (string, api.Errno) {
	if Check(r) != api.OK {
		return "", api.ErrForm
	}
	name, _ := label.Print(r.Name)
	return strings.Join([]string{name, decimal(r.TTL), decimal(r.Class), decimal(r.Type), hex(r.Data)}, " "), api.OK
}

// Parse reads each word as well as it can, and then holds the line of what it read against the one that it was given: a record has one line alone, though its name has more texts, and its numbers could be told otherwise.
func Parse(line string) (api.RR, api.Errno) {
	words := strings.SplitN(line, " ", 6)
	if len(words) != 5 {
		return api.RR{}, api.ErrCode
	}
	name, _ := label.Parse(words[0])
	r := api.RR{
		Name:  name,
		TTL:   uint32(number(words[1], 32)),
		Class: uint16(number(words[2], 16)),
		Type:  api.RType(number(words[3], 16)),
		Data:  unhex(words[4]),
	}
	own, why := Line(r)
	if why != api.OK || own != line {
		return api.RR{}, api.ErrCode
	}
	return r, api.OK
}

func decimal[N ~uint16 | ~uint32](n N) string { return strconv.FormatUint(uint64(n), 10) }

// number answers anything of what is no number: its line is another one then.
func number(text string, bits int) uint64 {
	n, _ := strconv.ParseUint(text, 10, bits)
	return n
}

func hex(data string) string {
	if data == "" {
		return noData
	}
	var out strings.Builder
	for i := range len(data) {
		out.WriteByte(digits[data[i]>>4])
		out.WriteByte(digits[data[i]&15])
	}
	return out.String()
}

// unhex answers anything of what are no digits, as number does; of noData no bytes, as that is no pair.
func unhex(text string) string {
	var data []byte
	for ; len(text) >= 2; text = text[2:] {
		b, _ := strconv.ParseUint(text[:2], 16, 8)
		data = append(data, byte(b))
	}
	return string(data)
}
