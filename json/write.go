package json

import (
	"strconv"
	"strings"

	"bagnall/api"
)

// A backslash and a byte of letters stand for the byte of escaped at the same
// place.
const (
	escaped = "\"\\\b\t\n\f\r"
	letters = "\"\\btnfr"
)

const hexDigits = "0123456789abcdef"

// write appends the canonical text of v to b. Check needs it also for texts
// that are too long; of these, only so much is written that their length shows
// it.
func write(b []byte, v api.Value) []byte {
	switch v.Kind {
	case api.Null:
		return append(b, "null"...)
	case api.False:
		return append(b, "false"...)
	case api.True:
		return append(b, "true"...)
	case api.Number:
		return strconv.AppendInt(b, int64(v.Num), 10)
	case api.String:
		return writeString(b, v.Text)
	case api.Array:
		return writeArray(b, v.Parts)
	}
	return writeObject(b, v.Keys, v.Parts)
}

func writeArray(b []byte, parts []api.Value) []byte {
	b = append(b, '[')
	for i, part := range parts {
		if i > 0 {
			b = append(b, ',')
		}
		b = write(b, part)
	}
	return append(b, ']')
}

func writeObject(b []byte, keys []string, parts []api.Value) []byte {
	b = append(b, '{')
	for i, key := range keys {
		if i > 0 {
			b = append(b, ',')
		}
		b = writeString(b, key)
		b = append(b, ':')
		b = write(b, parts[i])
	}
	return append(b, '}')
}

// writeString stops once b is too long, because a string that is to be refused
// may be much longer than any text.
func writeString(b []byte, s string) []byte {
	b = append(b, '"')
	for i := 0; i < len(s) && len(b) <= api.MaxText; i++ {
		b = writeByte(b, s[i])
	}
	return append(b, '"')
}

func writeByte(b []byte, c byte) []byte {
	if at := strings.IndexByte(escaped, c); at >= 0 {
		return append(b, '\\', letters[at])
	}
	if c < ' ' {
		return append(b, '\\', 'u', '0', '0', hexDigits[c>>4], hexDigits[c&15])
	}
	return append(b, c)
}
