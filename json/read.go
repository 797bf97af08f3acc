package json

import (
	"slices"
	"strings"

	"bagnall/api"
)

const upperDigits = "0123456789ABCDEF"

// reader reads the values of text from the position at on. Its methods return
// false if there is no such thing there.
type reader struct {
	text string
	at   int
}

func read(s string) (api.Value, bool) {
	r := &reader{text: s}
	r.skipSpace()
	v, ok := r.value()
	r.skipSpace()
	if !ok || r.at < len(s) {
		return api.Value{}, false
	}
	return v, true
}

func (r *reader) value() (api.Value, bool) {
	switch {
	case r.take("null"):
		return api.Value{Kind: api.Null}, true
	case r.take("false"):
		return api.Value{Kind: api.False}, true
	case r.take("true"):
		return api.Value{Kind: api.True}, true
	case r.take("\""):
		s, ok := r.restOfString()
		return api.Value{Kind: api.String, Text: s}, ok
	case r.takeMark("["):
		parts, ok := r.restOfArray()
		return api.Value{Kind: api.Array, Parts: parts}, ok
	case r.takeMark("{"):
		keys, parts, ok := r.restOfObject()
		return api.Value{Kind: api.Object, Keys: keys, Parts: parts}, ok
	}
	n, ok := r.number()
	return api.Value{Kind: api.Number, Num: n}, ok
}

// take goes behind word if the text goes on with it.
func (r *reader) take(word string) bool {
	if !strings.HasPrefix(r.text[r.at:], word) {
		return false
	}
	r.at += len(word)
	return true
}

// takeMark is take for the characters that may have space on both sides.
func (r *reader) takeMark(mark string) bool {
	r.skipSpace()
	if !r.take(mark) {
		return false
	}
	r.skipSpace()
	return true
}

func (r *reader) skipSpace() {
	for r.at < len(r.text) && strings.IndexByte(" \t\n\r", r.text[r.at]) >= 0 {
		r.at++
	}
}

// next returns the next byte and goes behind it.
func (r *reader) next() (byte, bool) {
	if r.at >= len(r.text) {
		return 0, false
	}
	c := r.text[r.at]
	r.at++
	return c, true
}

// number does not accept -0 or leading zeros: each number has one text.
func (r *reader) number() (int, bool) {
	if r.take("0") {
		return 0, true
	}
	negative := r.take("-")
	start, n := r.at, 0
	for r.at < len(r.text) && isDigit(r.text[r.at]) {
		// A number beyond the limit is out of range, however large it is;
		// kept at the limit, it does not overflow.
		n = min(10*n+int(r.text[r.at]-'0'), api.MaxNumber)
		r.at++
	}
	if r.at == start || r.text[start] == '0' {
		return 0, false
	}
	if negative {
		n = -n
	}
	return n, true
}

func isDigit(c byte) bool {
	return '0' <= c && c <= '9'
}

func (r *reader) restOfString() (string, bool) {
	var b []byte
	for {
		c, ok := r.next()
		switch {
		case !ok || c < ' ':
			return "", false
		case c == '"':
			return string(b), true
		case c == '\\':
			c, ok = r.restOfEscape()
			if !ok {
				return "", false
			}
		}
		b = append(b, c)
	}
}

func (r *reader) restOfEscape() (byte, bool) {
	c, ok := r.next()
	switch {
	case !ok:
		return 0, false
	case c == '/':
		return c, true
	case c == 'u':
		return r.restOfCode()
	}
	at := strings.IndexByte(letters, c)
	if at < 0 {
		return 0, false
	}
	return escaped[at], true
}

func (r *reader) restOfCode() (byte, bool) {
	n := 0
	for range 4 {
		c, ok := r.next()
		digit := max(strings.IndexByte(hexDigits, c), strings.IndexByte(upperDigits, c))
		if !ok || digit < 0 {
			return 0, false
		}
		n = 16*n + digit
	}
	if n >= 128 {
		return 0, false
	}
	return byte(n), true
}

func (r *reader) restOfArray() ([]api.Value, bool) {
	if r.takeMark("]") {
		return nil, true
	}
	var parts []api.Value
	for {
		v, ok := r.value()
		if !ok {
			return nil, false
		}
		parts = append(parts, v)
		if r.takeMark("]") {
			return parts, true
		}
		if !r.takeMark(",") {
			return nil, false
		}
	}
}

// restOfObject returns the members in the order of their keys.
func (r *reader) restOfObject() ([]string, []api.Value, bool) {
	if r.takeMark("}") {
		return nil, nil, true
	}
	var keys []string
	var parts []api.Value
	for {
		key, v, ok := r.member()
		if !ok {
			return nil, nil, false
		}
		at, twice := slices.BinarySearch(keys, key)
		if twice {
			return nil, nil, false
		}
		keys = slices.Insert(keys, at, key)
		parts = slices.Insert(parts, at, v)
		if r.takeMark("}") {
			return keys, parts, true
		}
		if !r.takeMark(",") {
			return nil, nil, false
		}
	}
}

func (r *reader) member() (string, api.Value, bool) {
	if !r.take("\"") {
		return "", api.Value{}, false
	}
	key, ok := r.restOfString()
	if !ok || !r.takeMark(":") {
		return "", api.Value{}, false
	}
	v, ok := r.value()
	return key, v, ok
}
