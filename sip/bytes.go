package sip

import "hardtack/api"

// wordSize is how many bytes a word has.
const wordSize = 8

func Bytes(n uint64) string {
	var b [wordSize]byte
	for i := range b {
		b[i] = byte(n >> (8 * i))
	}
	return string(b[:])
}

func Value(s string) (uint64, api.Errno) {
	if len(s) != wordSize {
		return 0, api.ErrForm
	}
	return number(s), api.OK
}

// number takes bytes that are missing for 0, so that a text's rest is a word, too.
func number(s string) uint64 {
	n := uint64(0)
	for i := range len(s) {
		n |= uint64(s[i]) << (8 * i)
	}
	return n
}
