package json

import (
	stdjson "encoding/json"
	"math"
	"math/rand"
	"reflect"
	"slices"
	"strconv"
	"strings"
	"testing"

	"bagnall/api"
)

var (
	null  = api.Value{Kind: api.Null}
	no    = api.Value{Kind: api.False}
	yes   = api.Value{Kind: api.True}
	empty = api.Value{Kind: api.Array}
)

func number(n int) api.Value  { return api.Value{Kind: api.Number, Num: n} }
func text(s string) api.Value { return api.Value{Kind: api.String, Text: s} }

func array(parts ...api.Value) api.Value {
	return api.Value{Kind: api.Array, Parts: parts}
}

// object takes keys and values in turn.
func object(members ...any) api.Value {
	v := api.Value{Kind: api.Object}
	for i := 0; i < len(members); i += 2 {
		v.Keys = append(v.Keys, members[i].(string))
		v.Parts = append(v.Parts, members[i+1].(api.Value))
	}
	return v
}

// nest puts v into n arrays.
func nest(n int, v api.Value) api.Value {
	for range n {
		v = array(v)
	}
	return v
}

func same(v, w api.Value) bool {
	return v.Kind == w.Kind && v.Num == w.Num && v.Text == w.Text &&
		slices.Equal(v.Keys, w.Keys) && slices.EqualFunc(v.Parts, w.Parts, same)
}

func copied(v api.Value) api.Value {
	v.Keys = slices.Clone(v.Keys)
	v.Parts = slices.Clone(v.Parts)
	for i, part := range v.Parts {
		v.Parts[i] = copied(part)
	}
	return v
}

func wantCheck(t *testing.T, v api.Value, code api.Errno) {
	t.Helper()
	if e := Check(v); e != code {
		t.Errorf("Check(%v): %d, want %d", v, e, code)
	}
}

func wantText(t *testing.T, v api.Value, want string) {
	t.Helper()
	if got, e := Text(v); got != want || e != api.OK {
		t.Errorf("Text(%v): %q %d, want %q", v, got, e, want)
	}
	wantCheck(t, v, api.OK)
}

func wantParse(t *testing.T, s string, want api.Value) {
	t.Helper()
	if got, e := Parse(s); !same(got, want) || e != api.OK {
		t.Errorf("Parse(%q): %v %d, want %v", s, got, e, want)
	}
}

// wantBoth says that s is the canonical text of v.
func wantBoth(t *testing.T, v api.Value, s string) {
	t.Helper()
	wantText(t, v, s)
	wantParse(t, s, v)
}

// wantBad says that v has the error code, which is also that of Text.
func wantBad(t *testing.T, v api.Value, code api.Errno) {
	t.Helper()
	wantCheck(t, v, code)
	if s, e := Text(v); s != "" || e != code {
		t.Errorf("Text(%v): %q %d, want %d", v, s, e, code)
	}
}

func wantRefused(t *testing.T, s string, code api.Errno) {
	t.Helper()
	if v, e := Parse(s); !same(v, api.Value{}) || e != code {
		t.Errorf("Parse(%q): %v %d, want %d", s, v, e, code)
	}
}

func TestValuesAndTextsP2_1P2_2P2_3(t *testing.T) {
	wantBoth(t, null, `null`)
	wantBoth(t, no, `false`)
	wantBoth(t, yes, `true`)
	wantBoth(t, number(0), `0`)
	wantBoth(t, number(7), `7`)
	wantBoth(t, number(-7), `-7`)
	wantBoth(t, number(10), `10`)
	wantBoth(t, number(-1020), `-1020`)
	wantBoth(t, number(1234567890), `1234567890`)
	wantBoth(t, text(""), `""`)
	wantBoth(t, text("abc"), `"abc"`)
	wantBoth(t, text("a b, [c] {d}: e"), `"a b, [c] {d}: e"`)
	wantBoth(t, empty, `[]`)
	wantBoth(t, array(null), `[null]`)
	wantBoth(t, array(empty, no, yes, null, number(-3), text("x")), `[[],false,true,null,-3,"x"]`)
	wantBoth(t, object(), `{}`)
	wantBoth(t, object("a", number(1)), `{"a":1}`)
	wantBoth(t, object("", object("", empty)), `{"":{"":[]}}`)
	wantBoth(t, object("a", null, "b", array(object("c", text("d"))), "e", no), `{"a":null,"b":[{"c":"d"}],"e":false}`)
}

func TestListsMayBeNilOrEmpty(t *testing.T) {
	for _, kind := range []int{api.Null, api.False, api.True, api.Number, api.String, api.Array, api.Object} {
		wantCheck(t, api.Value{Kind: kind}, api.OK)
		wantCheck(t, api.Value{Kind: kind, Keys: []string{}, Parts: []api.Value{}}, api.OK)
		wantCheck(t, api.Value{Kind: kind, Keys: make([]string, 0, 3), Parts: make([]api.Value, 0, 3)}, api.OK)
	}
}

func TestCheckKind(t *testing.T) {
	for _, kind := range []int{0, -1, 8, 9, 100, math.MinInt, math.MaxInt} {
		wantBad(t, api.Value{Kind: kind}, api.ErrKind)
		wantBad(t, array(null, api.Value{Kind: kind}), api.ErrKind)
		wantBad(t, object("a", api.Value{Kind: kind}), api.ErrKind)
		// No kind comes before what its fields say.
		wantBad(t, api.Value{Kind: kind, Num: math.MaxInt, Text: "a", Keys: []string{"a"}, Parts: []api.Value{null, null}}, api.ErrKind)
		wantBad(t, api.Value{Kind: kind, Parts: []api.Value{number(api.MaxNumber)}}, api.ErrKind)
	}
}

func TestCheckUnusedFields(t *testing.T) {
	one, key := []api.Value{null}, []string{"a"}
	for _, kind := range []int{api.Null, api.False, api.True, api.Number, api.String, api.Array, api.Object} {
		if kind != api.Number {
			wantBad(t, api.Value{Kind: kind, Num: 1}, api.ErrForm)
			wantBad(t, api.Value{Kind: kind, Num: -1}, api.ErrForm)
			// A number that is not used is not out of range.
			wantBad(t, api.Value{Kind: kind, Num: math.MaxInt}, api.ErrForm)
			wantBad(t, api.Value{Kind: kind, Num: math.MinInt}, api.ErrForm)
		}
		if kind != api.String {
			wantBad(t, api.Value{Kind: kind, Text: "x"}, api.ErrForm)
			wantBad(t, api.Value{Kind: kind, Text: "\x00"}, api.ErrForm)
		}
		if kind != api.Object {
			wantBad(t, api.Value{Kind: kind, Keys: key}, api.ErrForm)
			wantBad(t, api.Value{Kind: kind, Keys: []string{""}}, api.ErrForm)
			wantBad(t, api.Value{Kind: kind, Keys: key, Parts: one}, api.ErrForm)
		}
		if kind != api.Array && kind != api.Object {
			wantBad(t, api.Value{Kind: kind, Parts: one}, api.ErrForm)
			wantBad(t, api.Value{Kind: kind, Parts: []api.Value{{}}}, api.ErrForm)
		}
	}
	wantBad(t, api.Value{Kind: api.Object, Num: 1, Keys: key, Parts: one}, api.ErrForm)
	wantBad(t, api.Value{Kind: api.Object, Text: "x", Keys: key, Parts: one}, api.ErrForm)
	wantBad(t, api.Value{Kind: api.Array, Num: 1, Parts: one}, api.ErrForm)
	wantBad(t, api.Value{Kind: api.Array, Text: "x", Parts: one}, api.ErrForm)
	wantBad(t, api.Value{Kind: api.Number, Num: 1, Text: "1"}, api.ErrForm)
	wantBad(t, api.Value{Kind: api.Number, Num: api.MaxNumber, Text: "1"}, api.ErrForm)
	wantBad(t, api.Value{Kind: api.String, Num: 1, Text: "1"}, api.ErrForm)
}

func TestCheckKeysAndParts(t *testing.T) {
	for keys := range 4 {
		for parts := range 4 {
			v := api.Value{Kind: api.Object, Keys: []string{"a", "b", "c"}[:keys], Parts: []api.Value{null, null, null}[:parts]}
			if keys == parts {
				wantCheck(t, v, api.OK)
			} else {
				wantBad(t, v, api.ErrForm)
			}
		}
	}
}

func TestCheckKeysIncrease(t *testing.T) {
	for _, keys := range [][]string{
		{"", "a"}, {"a", "b"}, {"a", "aa"}, {"a", "a\x00"}, {"B", "a"}, {"Z", "_"}, {"10", "9"},
		{"\x00", "\x01"}, {"z", "\x80"}, {"\x7f", "\xff"}, {"\u00e9", "\u4e2d"}, {"\uffff", "\U00010000"},
		{"ab", "b"},
	} {
		wantCheck(t, object(keys[0], null, keys[1], null), api.OK)
		wantBad(t, object(keys[1], null, keys[0], null), api.ErrForm)
		wantBad(t, object(keys[0], null, keys[0], null), api.ErrForm)
		wantBad(t, object(keys[1], null, keys[1], null), api.ErrForm)
	}
	wantCheck(t, object("a", null, "b", null, "c", null), api.OK)
	wantBad(t, object("a", null, "c", null, "b", null), api.ErrForm)
	wantBad(t, object("b", null, "a", null, "c", null), api.ErrForm)
	wantBad(t, object("a", null, "b", null, "b", null), api.ErrForm)
	wantBad(t, object("a", null, "b", null, "a", null), api.ErrForm)
}

func TestCheckNumber(t *testing.T) {
	for _, n := range []int{0, 1, -1, api.MaxNumber - 1, 1 - api.MaxNumber} {
		wantBoth(t, number(n), strconv.Itoa(n))
	}
	for _, n := range []int{api.MaxNumber, -api.MaxNumber, api.MaxNumber + 1, -api.MaxNumber - 1, math.MaxInt, math.MinInt} {
		wantBad(t, number(n), api.ErrRange)
		wantBad(t, array(number(n)), api.ErrRange)
		wantRefused(t, strconv.Itoa(n), api.ErrRange)
	}
}

func TestCheckDepth(t *testing.T) {
	for _, v := range []api.Value{null, no, yes, number(1), text("a"), empty, object()} {
		wantCheck(t, nest(api.MaxDeep-1, v), api.OK)
		wantBad(t, nest(api.MaxDeep, v), api.ErrDeep)
		wantBad(t, nest(api.MaxDeep+1, v), api.ErrDeep)
	}
	v := number(1)
	for range api.MaxDeep - 1 {
		v = object("a", v)
	}
	wantBoth(t, v, `{"a":{"a":{"a":{"a":{"a":1}}}}}`)
	wantBad(t, object("a", v), api.ErrDeep)
	wantBad(t, array(v), api.ErrDeep)
	// Too deep comes before everything else that may be wrong there.
	for _, v := range []api.Value{{}, {Kind: 8}, {Kind: api.Null, Num: 1}, number(api.MaxNumber), {Kind: api.Object, Keys: []string{"a"}}} {
		wantBad(t, nest(api.MaxDeep, v), api.ErrDeep)
	}
	wantBad(t, nest(1000, null), api.ErrDeep)
}

// A list may contain itself: its values are nested without end.
func TestCheckCycle(t *testing.T) {
	v := array(null, null, null)
	v.Parts[1] = v
	wantBad(t, v, api.ErrDeep)
	v.Parts[0] = number(api.MaxNumber)
	wantBad(t, v, api.ErrRange)
	w := object("a", null, "b", null)
	w.Parts[0] = w
	w.Parts[1] = w
	wantBad(t, w, api.ErrDeep)
}

// Each of two errors comes first if it stands first in preorder.
func TestCheckPreorder(t *testing.T) {
	bad := map[api.Errno]api.Value{
		api.ErrDeep:  nest(api.MaxDeep-1, null),
		api.ErrKind:  {Kind: 8},
		api.ErrForm:  {Kind: api.Null, Text: "x"},
		api.ErrRange: number(api.MaxNumber),
	}
	for a, v := range bad {
		for b, w := range bad {
			wantBad(t, array(v, w), a)
			wantBad(t, array(null, v, null, w), a)
			wantBad(t, object("a", v, "b", w), a)
			wantBad(t, array(array(null, v), w), a)
			wantBad(t, array(object("a", null), v, array(w)), a)
			wantBad(t, array(w, v), b)
		}
		// What is wrong with a value comes before what is wrong with its parts.
		wantBad(t, api.Value{Kind: 8, Parts: []api.Value{v}}, api.ErrKind)
		wantBad(t, api.Value{Kind: api.Array, Num: 1, Parts: []api.Value{v}}, api.ErrForm)
		wantBad(t, object("b", v, "a", null), api.ErrForm)
		wantBad(t, object("a", v, "a", v), api.ErrForm)
		wantBad(t, api.Value{Kind: api.Object, Keys: []string{"a", "b"}, Parts: []api.Value{v}}, api.ErrForm)
		wantBad(t, api.Value{Kind: api.Number, Num: api.MaxNumber, Parts: []api.Value{v}}, api.ErrForm)
	}
}

// flat returns an array that is n values in all.
func flat(n int) api.Value {
	v := empty
	for range n - 1 {
		v.Parts = append(v.Parts, number(1))
	}
	return v
}

func TestCheckNodes(t *testing.T) {
	wantBoth(t, flat(api.MaxNodes), "[1"+strings.Repeat(",1", api.MaxNodes-2)+"]")
	wantBad(t, flat(api.MaxNodes+1), api.ErrSize)
	wantRefused(t, "[1"+strings.Repeat(",1", api.MaxNodes-1)+"]", api.ErrSize)
	half := flat(api.MaxNodes / 2)
	wantCheck(t, array(half, flat(api.MaxNodes/2-1)), api.OK)
	wantBad(t, array(half, half), api.ErrSize)
	wantCheck(t, array(half, object("a", flat(api.MaxNodes/2-2))), api.OK)
	wantBad(t, array(half, object("a", flat(api.MaxNodes/2-1))), api.ErrSize)
	wantBad(t, flat(100000), api.ErrSize)
	// Keys are no values, but each of them has one.
	v := object()
	for i := range api.MaxNodes - 1 {
		v.Keys = append(v.Keys, string([]byte{byte(128 + i)}))
		v.Parts = append(v.Parts, number(1))
	}
	wantCheck(t, v, api.OK)
	v.Keys = append(v.Keys, "\xff")
	v.Parts = append(v.Parts, number(1))
	wantBad(t, v, api.ErrSize)
}

func TestCheckTextLength(t *testing.T) {
	const most = api.MaxText - 2
	wantBoth(t, text(strings.Repeat("a", most)), `"`+strings.Repeat("a", most)+`"`)
	wantBad(t, text(strings.Repeat("a", most+1)), api.ErrSize)
	wantRefused(t, `"`+strings.Repeat("a", most+1)+`"`, api.ErrSize)
	wantBoth(t, text(strings.Repeat("\n", most/2)), `"`+strings.Repeat(`\n`, most/2)+`"`)
	wantBad(t, text(strings.Repeat("\n", most/2)+"a"), api.ErrSize)
	wantBoth(t, text(strings.Repeat("\x1f", most/6)+"aaaa"), `"`+strings.Repeat(`\u001f`, most/6)+`aaaa"`)
	wantBad(t, text(strings.Repeat("\x1f", most/6)+"aaaaa"), api.ErrSize)
	wantBad(t, text(strings.Repeat("\x1f", most/6+1)), api.ErrSize)
	wantBoth(t, text(strings.Repeat("\xff", most)), `"`+strings.Repeat("\xff", most)+`"`)
	wantBad(t, text(strings.Repeat("a", 1<<24)), api.ErrSize)
	wantBad(t, object(strings.Repeat("a", 1<<24), null), api.ErrSize)
}

// The length counts everything that the text has: not only its strings.
func TestCheckTextLengthOfEveryKind(t *testing.T) {
	for _, v := range []api.Value{null, no, yes, number(0), number(-12345), text(""), text("\"\\/\x00\t"), empty, object(), array(null, null), object("\x07", no, "\r", yes)} {
		s, _ := Text(v)
		rest := api.MaxText - len(s) - len(`[,""]`)
		wantBoth(t, array(v, text(strings.Repeat("x", rest))), "["+s+`,"`+strings.Repeat("x", rest)+`"]`)
		wantBad(t, array(v, text(strings.Repeat("x", rest+1))), api.ErrSize)
		wantBad(t, array(text(strings.Repeat("x", rest+1)), v), api.ErrSize)
		rest = api.MaxText - len(s) - len(`{"":}`)
		wantBoth(t, object(strings.Repeat("x", rest), v), `{"`+strings.Repeat("x", rest)+`":`+s+"}")
		wantBad(t, object(strings.Repeat("x", rest+1), v), api.ErrSize)
	}
}

func TestCheckSizeComesLast(t *testing.T) {
	long := text(strings.Repeat("a", api.MaxText))
	many := flat(api.MaxNodes + 1)
	for _, v := range []api.Value{long, many} {
		wantBad(t, array(v, null), api.ErrSize)
		wantBad(t, array(v, api.Value{}), api.ErrKind)
		wantBad(t, array(v, api.Value{Kind: api.Null, Num: 1}), api.ErrForm)
		wantBad(t, array(v, number(api.MaxNumber)), api.ErrRange)
		wantBad(t, array(v, nest(api.MaxDeep-1, null)), api.ErrDeep)
	}
	wantRefused(t, `["`+strings.Repeat("a", api.MaxText)+`",9007199254740992]`, api.ErrRange)
	wantRefused(t, "["+strings.Repeat("1,", api.MaxNodes)+"[[[[[[1]]]]]]]", api.ErrDeep)
}

func TestTextOfEveryByte(t *testing.T) {
	short := map[byte]string{8: `\b`, 9: `\t`, 10: `\n`, 12: `\f`, 13: `\r`, '"': `\"`, '\\': `\\`}
	for c := range 256 {
		b := string([]byte{byte(c)})
		want, ok := short[byte(c)]
		switch {
		case !ok && c < 32:
			want = `\u00` + string("0123456789abcdef"[c/16]) + string("0123456789abcdef"[c%16])
		case !ok:
			want = b
		}
		wantBoth(t, text(b), `"`+want+`"`)
		wantBoth(t, text("a"+b+b+"z"), `"a`+want+want+`z"`)
		wantBoth(t, object(b, null), `{"`+want+`":null}`)
	}
}

func TestParseEveryByteAsItself(t *testing.T) {
	for c := range 256 {
		b := string([]byte{byte(c)})
		if c < 32 || c == '"' || c == '\\' {
			wantRefused(t, `"`+b+`"`, api.ErrForm)
			wantRefused(t, `"a`+b+`a"`, api.ErrForm)
			wantRefused(t, `{"`+b+`":1}`, api.ErrForm)
		} else {
			wantParse(t, `"`+b+`"`, text(b))
			wantParse(t, `{"`+b+`":1}`, object(b, number(1)))
		}
	}
}

func TestParseEveryEscape(t *testing.T) {
	meant := map[byte]string{'"': "\"", '\\': "\\", '/': "/", 'b': "\b", 't': "\t", 'n': "\n", 'f': "\f", 'r': "\r"}
	for c := range 256 {
		s := `"` + "\\" + string([]byte{byte(c)}) + `"`
		if want, ok := meant[byte(c)]; ok {
			wantParse(t, s, text(want))
			wantParse(t, "{"+s+":1}", object(want, number(1)))
		} else {
			wantRefused(t, s, api.ErrForm)
		}
	}
	// / needs no backslash, and the canonical text has none.
	wantBoth(t, text("/"), `"/"`)
}

func TestParseEveryCode(t *testing.T) {
	const lower, upper = "0123456789abcdef", "0123456789ABCDEF"
	for n := range 1 << 16 {
		var low, high []byte
		for shift := 12; shift >= 0; shift -= 4 {
			low = append(low, lower[n>>shift&15])
			high = append(high, upper[n>>shift&15])
		}
		for _, code := range []string{string(low), string(high)} {
			if n < 128 {
				wantParse(t, `"\u`+code+`"`, text(string([]byte{byte(n)})))
				wantParse(t, `"a\u`+code+`0"`, text("a"+string([]byte{byte(n)})+"0"))
			} else {
				wantRefused(t, `"\u`+code+`"`, api.ErrForm)
			}
		}
	}
}

func TestParseCodesOfAnotherForm(t *testing.T) {
	for _, s := range []string{
		`"\u"`, `"\u0"`, `"\u00"`, `"\u004"`, `"\u004`, `"\u0041`, `"\u`, `"\u0`, `"\u00`, `"\`,
		`"\U0041"`, `"\x41"`, `"\101"`, `"\u 041"`, `"\u-041"`, `"\u+041"`, `"\u{41}"`, `"\ud83d\ude00"`,
		`"\u00e9"`, `"\u0080"`, `"\u00ff"`, `"\u0100"`, `"\u1041"`, `"\uffff"`,
	} {
		wantRefused(t, s, api.ErrForm)
	}
	for at := range 4 {
		for c := range 256 {
			if strings.IndexByte("0123456789abcdefABCDEF", byte(c)) >= 0 {
				continue
			}
			code := []byte("0041")
			code[at] = byte(c)
			wantRefused(t, `"\u`+string(code)+`"`, api.ErrForm)
		}
	}
}

func TestParseNumbers(t *testing.T) {
	wantParse(t, "9007199254740991", number(9007199254740991))
	wantParse(t, "-9007199254740991", number(-9007199254740991))
	for _, s := range []string{
		"9007199254740992", "9007199254740993", "9223372036854775807", "9223372036854775808",
		"18446744073709551615", "18446744073709551616", "18446744073709551617", "36893488147419103233",
		"100000000000000000000000000000000000000000", "1" + strings.Repeat("0", 2*api.MaxText-2), strings.Repeat("9", 2*api.MaxText-1),
	} {
		wantRefused(t, s, api.ErrRange)
		wantRefused(t, "-"+s, api.ErrRange)
	}
	for _, s := range []string{
		"-0", "00", "01", "-00", "-01", "007", "+1", "+0", "-", "--1", "- 1", "-\t1", "1-", "1.0", "1.", ".5", "0.0", "-.5",
		"1e1", "1E1", "0e0", "1e+1", "0x1", "1_000", "1 000", "1a", "a1", "0a", "0 0", "1 1", "Infinity", "NaN", "-Infinity",
		"1,", ",1", "1:1", "\uff11", "-a", "-\"1\"", "-[1]", "0-", "9007199254740992-", "09007199254740992", "-09007199254740992",
	} {
		wantRefused(t, s, api.ErrForm)
		wantRefused(t, "["+s+"]", api.ErrForm)
	}
}

func TestParseSpace(t *testing.T) {
	v := array(null, object("a", array(), "b c", object()), array(number(-1), text("d , e")))
	tokens := []string{"[", "null", ",", "{", `"a"`, ":", "[", "]", ",", `"b c"`, ":", "{", "}", "}", ",", "[", "-1", ",", `"d , e"`, "]", "]"}
	wantBoth(t, v, strings.Join(tokens, ""))
	for _, space := range []string{" ", "\t", "\n", "\r", "  ", " \t\n\r \r\n"} {
		wantParse(t, space+strings.Join(tokens, space)+space, v)
		for at := range len(tokens) + 1 {
			s := strings.Join(tokens[:at], "") + space + strings.Join(tokens[at:], "")
			wantParse(t, s, v)
		}
		for _, s := range []string{"null", "true", "false", "0", "-5", `"a"`, "[]", "{}"} {
			w, _ := Parse(s)
			wantParse(t, space+s, w)
			wantParse(t, s+space, w)
			wantParse(t, space+s+space, w)
		}
	}
	for _, space := range []string{"\v", "\f", "\x00", "\b", "\x1f", "\x7f", "\u00a0", "\u0085", "\u2028", "\ufeff", "\xa0", "/**/", "//\n", "#\n"} {
		for at := range len(tokens) + 1 {
			s := strings.Join(tokens[:at], "") + space + strings.Join(tokens[at:], "")
			wantRefused(t, s, api.ErrForm)
		}
		wantRefused(t, space+"1", api.ErrForm)
		wantRefused(t, "1"+space, api.ErrForm)
	}
}

func TestParseNoSpaceWithinTokens(t *testing.T) {
	for _, token := range []string{"null", "true", "false", "12", "-1", "123", `"\n"`, `"\u0041"`} {
		for at := 1; at < len(token); at++ {
			for _, space := range []string{" ", "\t", "\n", "\r"} {
				s := token[:at] + space + token[at:]
				if token[0] == '"' && space == " " && (at == 1 || at == len(token)-1) {
					continue // a space within a string is part of it
				}
				wantRefused(t, s, api.ErrForm)
				wantRefused(t, "["+s+"]", api.ErrForm)
			}
		}
	}
	wantParse(t, `" a "`, text(" a "))
	wantParse(t, `[" "]`, array(text(" ")))
	wantParse(t, `{" a ":1}`, object(" a ", number(1)))
}

func TestParseKeysInAnyOrder(t *testing.T) {
	keys := []string{"", "a", "aa", "b", "\xff"}
	v := object()
	for i, key := range keys {
		v.Keys = append(v.Keys, key)
		v.Parts = append(v.Parts, number(i))
	}
	random := rand.New(rand.NewSource(1))
	for range 300 {
		s := ""
		for _, i := range random.Perm(len(keys)) {
			s += `,"` + keys[i] + `":` + strconv.Itoa(i)
		}
		wantParse(t, "{"+s[1:]+"}", v)
	}
	wantParse(t, `{"b":{"d":1,"c":2},"a":3}`, object("a", number(3), "b", object("c", number(2), "d", number(1))))
	// The order is that of the keys, not of the texts that they are written as.
	wantParse(t, `{"\u0062":1,"a":2}`, object("a", number(2), "b", number(1)))
	wantParse(t, `{"\n":1,"!":2}`, object("\n", number(1), "!", number(2)))
	wantBoth(t, object("\n", number(1), "!", number(2)), `{"\n":1,"!":2}`)
}

func TestParseKeysTwice(t *testing.T) {
	for _, s := range []string{
		`{"a":1,"a":1}`, `{"a":1,"a":2}`, `{"":1,"":1}`, `{"a":1,"b":2,"a":3}`, `{"b":1,"a":2,"b":3}`, `{"c":1,"a":2,"b":3,"a":4}`,
		`{"a":1,"\u0061":1}`, `{"\u0061":1,"a":1}`, `{"\n":1,"\u000a":1}`, `{"\n":1,"\u000A":1}`, `{"/":1,"\/":1}`, `{"\u002f":1,"\/":1}`,
		`{"\"":1,"\u0022":1}`, `{"\\":1,"\u005c":1}`, `{"\u001f":1,"\u001F":1}`,
		`[{"a":1,"a":1}]`, `{"x":{"a":1,"a":1}}`, `{"a":{"a":1},"a":1}`,
	} {
		wantRefused(t, s, api.ErrForm)
	}
	wantParse(t, `{"a":{"a":1},"b":{"a":1}}`, object("a", object("a", number(1)), "b", object("a", number(1))))
	wantParse(t, `[{"a":1},{"a":1}]`, array(object("a", number(1)), object("a", number(1))))
	wantParse(t, `{"a":1,"A":1}`, object("A", number(1), "a", number(1)))
	wantParse(t, `{"\\n":1,"\n":2}`, object("\n", number(2), "\\n", number(1)))
}

func TestParseOtherTexts(t *testing.T) {
	for _, s := range []string{
		"", " ", "\n\t", "nul", "nulll", "Null", "NULL", "tru", "truee", "True", "fals", "falsee", "nil", "undefined", "none",
		"[", "]", "[1", "[1,", "[1,]", "[,1]", "[,]", "[1,,2]", "[1 2]", "[1]]", "[[1]", "[1}", "[1:2]", "[1;2]", "(1)", "[1],", "[1] 1", "[] []", "[]{}",
		"{", "}", `{"a"`, `{"a":`, `{"a":1`, `{"a":1,`, `{"a":1,}`, `{,"a":1}`, `{"a"}`, `{"a":}`, `{:1}`, `{"a",1}`, `{"a":1]`, `{"a":1}}`, `{"a":1,,"b":2}`,
		`{"a":1 "b":2}`, `{"a" 1}`, `{"a"::1}`, `{"a":1:2}`, `{a:1}`, `{'a':1}`, `{1:1}`, `{null:1}`, `{["a"]:1}`, `{{}:1}`, `{"a":1;"b":2}`, `{"a"=1}`, `{1}`, `{[]}`,
		`"`, `"a`, `a"`, `"a""b"`, `"a"b`, `'a'`, "`a`", `"a\"`, `a`, `\n`, `"a" "b"`, `"a","b"`, `"a":1`, `/`, `"\/`,
		"truefalse", "nullnull", "true false", "null,null", "1null", "null1", `1"a"`, `[1"a"]`, `["a"1]`, `["a""b"]`, "[nulltrue]", "[null true]",
		"//", "/**/", "\ufeff1", "1\x00", "\x001", ",", ":", "-", "\\",
	} {
		wantRefused(t, s, api.ErrForm)
		wantRefused(t, `[1,`+s+`,"a"`, api.ErrForm)
		wantRefused(t, `{"a":`+s+`,"b"`, api.ErrForm)
	}
}

func TestParseCutShortOrGoingOn(t *testing.T) {
	s := ` { "b" : [ "x\"\u000a\u0001\/" , true , null , false , { } , [ ] ] , "a" : -5 } `
	v := object("a", number(-5), "b", array(text("x\"\n\x01/"), yes, null, no, object(), array()))
	wantParse(t, s, v)
	end := len(s) - 1
	for at := range end {
		wantRefused(t, s[:at], api.ErrForm)
	}
	wantParse(t, s[:end], v)
	for c := range 256 {
		if strings.IndexByte(" \t\n\r", byte(c)) < 0 {
			wantRefused(t, s+string([]byte{byte(c)}), api.ErrForm)
			wantRefused(t, string([]byte{byte(c)})+s, api.ErrForm)
		}
	}
	wantRefused(t, s+s, api.ErrForm)
}

func TestParseSizeComesFirst(t *testing.T) {
	const most = 2 * api.MaxText
	wantParse(t, "1"+strings.Repeat(" ", most-1), number(1))
	wantParse(t, strings.Repeat("\n", most-1)+"1", number(1))
	wantRefused(t, "1"+strings.Repeat(" ", most), api.ErrSize)
	wantRefused(t, strings.Repeat(" ", most), api.ErrForm)
	wantRefused(t, strings.Repeat(" ", most+1), api.ErrSize)
	wantRefused(t, strings.Repeat("[", most), api.ErrForm)
	wantRefused(t, strings.Repeat("[", most+1), api.ErrSize)
	wantRefused(t, strings.Repeat("9", most), api.ErrRange)
	wantRefused(t, strings.Repeat("9", most+1), api.ErrSize)
	wantRefused(t, strings.Repeat("[", 1<<22), api.ErrSize)
	// A text of any length up to that, if the value is small enough.
	wantParse(t, `"`+strings.Repeat(`\u0061`, 199)+`"`, text(strings.Repeat("a", 199)))
	wantParse(t, `"`+strings.Repeat(`\/`, 598)+`"`, text(strings.Repeat("/", 598)))
	wantRefused(t, `"`+strings.Repeat(`\/`, 599)+`"`, api.ErrSize)
}

func TestParseFormComesBeforeCheck(t *testing.T) {
	deep := "[[[[[[[[1]]]]]]]]"
	wide := "[1" + strings.Repeat(",1", api.MaxNodes) + "]"
	long := `"` + strings.Repeat("a", api.MaxText) + `"`
	for s, code := range map[string]api.Errno{deep: api.ErrDeep, wide: api.ErrSize, long: api.ErrSize, "9007199254740992": api.ErrRange, "-99999999999999999999": api.ErrRange} {
		wantRefused(t, s, code)
		wantRefused(t, "["+s+",1]", code)
		wantRefused(t, s+"x", api.ErrForm)
		wantRefused(t, "["+s+",]", api.ErrForm)
		wantRefused(t, "["+s+",-0]", api.ErrForm)
		wantRefused(t, "["+s+",{\"a\":1,\"a\":1}]", api.ErrForm)
		wantRefused(t, `{"a":`+s+`,"a":1}`, api.ErrForm)
	}
	half := api.MaxText
	wantRefused(t, strings.Repeat("[", half)+strings.Repeat("]", half), api.ErrDeep)
	wantRefused(t, strings.Repeat("[", half)+strings.Repeat("]", half-1), api.ErrForm)
	wantRefused(t, strings.Repeat(`{"":`, 200)+"1"+strings.Repeat("}", 200), api.ErrDeep)
	wantParse(t, "[[[[[1]]]]]", nest(5, number(1)))
	wantParse(t, "[[[[[[]]]]]]", nest(5, empty))
	wantRefused(t, "[[[[[[1]]]]]]", api.ErrDeep)
	wantRefused(t, "[[[[[[[]]]]]]]", api.ErrDeep)
	// In the value, the members stand in the order of their keys.
	wantRefused(t, `{"b":9007199254740992,"a":[[[[[1]]]]]}`, api.ErrDeep)
	wantRefused(t, `{"a":9007199254740992,"b":[[[[[1]]]]]}`, api.ErrRange)
	wantRefused(t, `{"b":[[[[[1]]]]],"a":9007199254740992}`, api.ErrRange)
}

// All short texts over a few characters, against the standard library.
func TestParseEveryShortText(t *testing.T) {
	const letters = `[]{},:"0 -1`
	var try func(s string, n int)
	try = func(s string, n int) {
		v, e := Parse(s)
		valid := stdjson.Valid([]byte(s)) && !strings.Contains(withoutStrings(s), "-0")
		if valid != (e == api.OK) || !valid && e != api.ErrForm {
			t.Errorf("Parse(%q): %v %d", s, v, e)
		}
		if n > 0 {
			for i := range len(letters) {
				try(s+letters[i:i+1], n-1)
			}
		}
	}
	try("", 5)
}

func withoutStrings(s string) string {
	out, within := "", false
	for i := range len(s) {
		if s[i] == '"' {
			within = !within
		} else if !within {
			out += s[i : i+1]
		}
	}
	return out
}

// someValue returns a random value, mostly a valid one.
func someValue(random *rand.Rand, depth int) api.Value {
	switch kind := 1 + random.Intn(9); {
	case kind == api.Number:
		return number(random.Intn(1<<54) - 1<<53)
	case kind == api.String:
		return text(someString(random))
	case kind == api.Array && depth > 0:
		v := empty
		for range random.Intn(4) {
			v.Parts = append(v.Parts, someValue(random, depth-1))
		}
		return v
	case kind >= api.Object && depth > 0:
		v := object()
		for range random.Intn(4) {
			v.Keys = append(v.Keys, someString(random))
		}
		slices.Sort(v.Keys)
		v.Keys = slices.Compact(v.Keys)
		for range v.Keys {
			v.Parts = append(v.Parts, someValue(random, depth-1))
		}
		return v
	case kind <= api.True:
		return api.Value{Kind: kind}
	}
	return null
}

func someString(random *rand.Rand) string {
	b := make([]byte, random.Intn(4))
	for i := range b {
		b[i] = byte(random.Intn(128))
	}
	return string(b)
}

// loose writes v with space, with its keys in any order and with escapes.
func loose(random *rand.Rand, v api.Value) string {
	space := func() string {
		return []string{"", "", "", " ", "\t", "\r\n"}[random.Intn(6)]
	}
	var s string
	switch v.Kind {
	case api.Array:
		for i, part := range v.Parts {
			if i > 0 {
				s += ","
			}
			s += loose(random, part)
		}
		s = "[" + space() + s + "]"
	case api.Object:
		for n, i := range random.Perm(len(v.Keys)) {
			if n > 0 {
				s += ","
			}
			s += space() + looseString(random, v.Keys[i]) + space() + ":" + loose(random, v.Parts[i])
		}
		s = "{" + space() + s + "}"
	case api.String:
		s = looseString(random, v.Text)
	default:
		s, _ = Text(v)
	}
	return space() + s + space()
}

func looseString(random *rand.Rand, s string) string {
	out := ""
	for i := range len(s) {
		switch random.Intn(3) {
		case 0:
			out += `\u00` + string("0123456789abcdef"[s[i]>>4]) + string("0123456789ABCDEF"[s[i]&15])
		default:
			written := string(writeByte(nil, s[i]))
			if written == "/" && random.Intn(2) == 0 {
				written = `\/`
			}
			out += written
		}
	}
	return `"` + out + `"`
}

func TestTextAndParseAgree(t *testing.T) {
	random := rand.New(rand.NewSource(2))
	valid := 0
	for range 20000 {
		v := someValue(random, 4)
		s, e := Text(v)
		if e != api.OK {
			continue
		}
		valid++
		wantParse(t, s, v)
		if l := loose(random, v); len(l) <= 2*api.MaxText {
			wantParse(t, l, v)
		}
		var mine, theirs any
		if stdjson.Unmarshal([]byte(s), &mine) != nil {
			t.Errorf("%q is no JSON", s)
		}
		w, _ := Parse(s)
		again, _ := Text(w)
		if again != s || stdjson.Unmarshal([]byte(again), &theirs) != nil || !reflect.DeepEqual(mine, theirs) {
			t.Errorf("%q is %q again", s, again)
		}
	}
	if valid < 10000 {
		t.Errorf("only %d values were valid", valid)
	}
}

func TestArgumentsStayAsTheyAre(t *testing.T) {
	keys := []string{"a", "b", "spare"}
	parts := []api.Value{number(1), array(null), text("spare")}
	inner := parts[1].Parts
	for _, v := range []api.Value{
		{Kind: api.Object, Keys: keys[:2], Parts: parts[:2]},
		{Kind: api.Array, Parts: parts[:1]},
		{Kind: api.Object, Keys: keys[1:2], Parts: parts[:2]},
	} {
		was := copied(v)
		Check(v)
		Text(v)
		if !same(v, was) {
			t.Errorf("%v became %v", was, v)
		}
	}
	if !slices.Equal(keys, []string{"a", "b", "spare"}) || !same(array(parts...), array(number(1), array(null), text("spare"))) || &inner[0] != &parts[1].Parts[0] {
		t.Errorf("the lists became %v %v", keys, parts)
	}
}

// What is written behind one list of a result is not seen in another.
func TestListsOfAResultShareNoMemory(t *testing.T) {
	s := `{"d":[1,2,3],"a":[4],"c":{"y":5,"x":[6,[7]]},"b":[]}`
	v, _ := Parse(s)
	w, _ := Parse(s)
	var spoil func(api.Value)
	spoil = func(v api.Value) {
		for _, part := range v.Parts {
			spoil(part)
		}
		for i := len(v.Keys); i < cap(v.Keys); i++ {
			v.Keys[:cap(v.Keys)][i] = "spoilt"
		}
		for i := len(v.Parts); i < cap(v.Parts); i++ {
			v.Parts[:cap(v.Parts)][i] = text("spoilt")
		}
	}
	spoil(v)
	if !same(v, w) {
		t.Errorf("%v, want %v", v, w)
	}
	for i := range v.Parts {
		v.Parts[i].Kind = 0
		v.Keys[i] = ""
	}
	if again, _ := Parse(s); !same(again, w) {
		t.Errorf("%v, want %v", again, w)
	}
}

func FuzzParse(f *testing.F) {
	f.Add(` { "b" : [ "x\"\u000a\u0001\/" , true , null , false , { } , [ ] ] , "a" : -5 } `)
	f.Add("[[[[[[1]]]]]]")
	f.Add("9007199254740992")
	f.Fuzz(func(t *testing.T, s string) {
		v, e := Parse(s)
		if e == api.ErrForm || len(s) > 2*api.MaxText {
			return
		}
		if !stdjson.Valid([]byte(s)) {
			t.Errorf("Parse(%q): %v %d, but it is no JSON", s, v, e)
		}
		if e != api.OK {
			return
		}
		canonical, e := Text(v)
		w, again := Parse(canonical)
		if e != api.OK || again != api.OK || !same(v, w) {
			t.Errorf("Parse(%q): %v, but %v behind %q", s, v, w, canonical)
		}
	})
}
