// Package base: see doc/01-base.md.
package base

import (
	"strings"

	"bagnall/api"
)

const digits = "ABCDEFGHIJKLMNOPQRSTUVWXYZabcdefghijklmnopqrstuvwxyz0123456789+/"

const (
	byteBits  = 8
	digitBits = 6
)

// Text returns the Base64 encoding of b without padding.
func Text(b []byte) (string, api.Errno) {
	if len(b) > api.MaxText {
		return "", api.ErrSize
	}
	return encode(b), api.OK
}

// Bytes returns the bytes whose encoding is s.
func Bytes(s string) ([]byte, api.Errno) {
	if len(s) > 2*api.MaxText {
		return nil, api.ErrSize
	}
	b, ok := decode(s)
	if !ok {
		return nil, api.ErrForm
	}
	return b, api.OK
}

func encode(b []byte) string {
	var text []byte
	held, bits := 0, 0 // what has been read of b but not yet written
	for _, c := range b {
		held = held<<byteBits | int(c)
		bits += byteBits
		for bits >= digitBits {
			bits -= digitBits
			text = append(text, digits[held>>bits])
			held = lowest(held, bits)
		}
	}
	if bits > 0 {
		text = append(text, digits[held<<(digitBits-bits)])
	}
	return string(text)
}

func decode(s string) ([]byte, bool) {
	var b []byte
	held, bits := 0, 0 // what has been read of s but not yet written
	for i := range len(s) {
		digit := strings.IndexByte(digits, s[i])
		if digit < 0 {
			return nil, false
		}
		held = held<<digitBits | digit
		bits += digitBits
		if bits >= byteBits {
			bits -= byteBits
			b = append(b, byte(held>>bits))
			held = lowest(held, bits)
		}
	}
	// A whole digit is left over only if it stands alone behind the groups of
	// four, and no encoding ends like that. Bits that are left over and not
	// zero would make several texts stand for the same bytes.
	if bits >= digitBits || held != 0 {
		return nil, false
	}
	return b, true
}

// lowest keeps the lowest bits of n, so that n stays small.
func lowest(n, bits int) int {
	return n & (1<<bits - 1)
}
