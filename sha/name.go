package sha

import (
	"bytes"

	"flurry/api"
)

const digits = "0123456789abcdef"

// Hex is a name's text, Parse the name of a text.
func Hex(id api.ID) string {
	var text [2 * len(id)]byte
	for i, b := range id {
		text[2*i], text[2*i+1] = digits[b>>4], digits[b&15]
	}
	return string(text[:])
}

func Parse(s string) (api.ID, api.Errno) {
	var id api.ID
	if len(s) != 2*len(id) {
		return api.ID{}, api.ErrHex
	}
	for i, r := range s {
		d, ok := digit(r)
		if !ok {
			return api.ID{}, api.ErrHex
		}
		id[i/2] = id[i/2]<<4 | d
	}
	return id, api.OK
}

func digit(r rune) (byte, bool) {
	if '0' <= r && r <= '9' {
		return byte(r - '0'), true
	}
	if 'a' <= r && r <= 'f' {
		return byte(r-'a') + 10, true
	}
	return 0, false
}

// Compare tells which of two comes ahead, Less whether the first one does.
func Compare(a, b api.ID) int { return bytes.Compare(a[:], b[:]) }

func Less(a, b api.ID) bool { return Compare(a, b) < 0 }
