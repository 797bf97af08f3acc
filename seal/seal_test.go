package seal

import (
	"bytes"
	"encoding/base64"
	stdjson "encoding/json"
	"math"
	"math/rand"
	"slices"
	"strings"
	"testing"
	"unicode/utf8"

	"bagnall/api"
	"bagnall/json"
	"bagnall/sign"
)

const (
	user = "@a:x"
	key  = "ed:A"
	pub5 = 1024 // the public key of the secret 5
)

var (
	null = api.Value{Kind: api.Null}
	yes  = api.Value{Kind: api.True}
)

func num(n int) api.Value     { return api.Value{Kind: api.Number, Num: n} }
func text(s string) api.Value { return api.Value{Kind: api.String, Text: s} }

func array(parts ...api.Value) api.Value {
	return api.Value{Kind: api.Array, Parts: parts}
}

// object takes keys and values in turn.
func object(members ...any) api.Value {
	v := api.Value{Kind: api.Object}
	for i := 0; i < len(members); i += 2 {
		v.Keys = append(v.Keys, members[i].(string))
		v.Parts = append(v.Parts, members[i+1].(api.Value))
	}
	return v
}

// flat returns an array of n values, itself among them.
func flat(n int) api.Value {
	v := array()
	for range n - 1 {
		v.Parts = append(v.Parts, num(1))
	}
	return v
}

func same(v, w api.Value) bool {
	return v.Kind == w.Kind && v.Num == w.Num && v.Text == w.Text &&
		slices.Equal(v.Keys, w.Keys) && slices.EqualFunc(v.Parts, w.Parts, same)
}

func copied(v api.Value) api.Value {
	v.Keys = slices.Clone(v.Keys)
	v.Parts = slices.Clone(v.Parts)
	for i, part := range v.Parts {
		v.Parts[i] = copied(part)
	}
	return v
}

// parsed is the value of a text of which the test knows that it has one.
func parsed(t *testing.T, s string) api.Value {
	t.Helper()
	v, e := json.Parse(s)
	if e != api.OK {
		t.Fatalf("Parse(%q): %d", s, e)
	}
	return v
}

// textOf is the whole text of a value that is valid.
func textOf(t *testing.T, v api.Value) string {
	t.Helper()
	s, e := json.Text(v)
	if e != api.OK {
		t.Fatalf("Text(%v): %d", v, e)
	}
	return s
}

// encoded is what is stored of a signature, made with the standard library.
func encoded(s api.Sign) string {
	return base64.RawStdEncoding.EncodeToString([]byte{byte(s.R / 256), byte(s.R % 256), byte(s.S / 256), byte(s.S % 256)})
}

// made is what is stored of the signature of a text.
func made(t *testing.T, x, k int, signed string) string {
	t.Helper()
	s, e := sign.Make(x, k, []byte(signed))
	if e != api.OK {
		t.Fatalf("Make(%d, %d, %q): %d", x, k, signed, e)
	}
	return encoded(s)
}

// put is Put where the test knows that there is no error.
func put(t *testing.T, v api.Value, user, key string, x, k int) api.Value {
	t.Helper()
	w, e := Put(v, user, key, x, k)
	if e != api.OK {
		t.Fatalf("Put(%v, %q, %q, %d, %d): %d", v, user, key, x, k, e)
	}
	return w
}

func publicOf(t *testing.T, x int) int {
	t.Helper()
	y, e := sign.Public(x)
	if e != api.OK {
		t.Fatalf("Public(%d): %d", x, e)
	}
	return y
}

func wantText(t *testing.T, v api.Value, want string, code api.Errno) {
	t.Helper()
	was := copied(v)
	if got, e := Text(v); got != want || e != code {
		t.Errorf("Text(%v): %q %d, want %q %d", v, got, e, want, code)
	}
	if !same(v, was) {
		t.Errorf("Text made %v of %v", v, was)
	}
}

func wantPut(t *testing.T, v api.Value, user, key string, x, k int, want api.Value, code api.Errno) {
	t.Helper()
	was := copied(v)
	if got, e := Put(v, user, key, x, k); !same(got, want) || e != code {
		t.Errorf("Put(%v, %q, %q, %d, %d): %v %d, want %v %d", v, user, key, x, k, got, e, want, code)
	}
	if !same(v, was) {
		t.Errorf("Put made %v of %v", v, was)
	}
}

func wantNoPut(t *testing.T, v api.Value, user, key string, x, k int, code api.Errno) {
	t.Helper()
	wantPut(t, v, user, key, x, k, api.Value{}, code)
}

func wantCheck(t *testing.T, v api.Value, user, key string, pub int, code api.Errno) {
	t.Helper()
	was := copied(v)
	if e := Check(v, user, key, pub); e != code {
		t.Errorf("Check(%v, %q, %q, %d): %d, want %d", v, user, key, pub, e, code)
	}
	if !same(v, was) {
		t.Errorf("Check made %v of %v", v, was)
	}
}

// wantPutText says what Put makes of the value of a text, as a text.
func wantPutText(t *testing.T, from, user, key string, x, k int, to string) {
	t.Helper()
	wantPut(t, parsed(t, from), user, key, x, k, parsed(t, to), api.OK)
}

// notUsers and notKeys are near to identifiers, but none.
func notUsers() []string {
	long := strings.Repeat("a", api.MaxName+1)
	return []string{
		"", "@", ":", "@:", "a", "a:x", "@a", "@a:", "@:x", "@a:x:80", "@a:x:", "@A:x", "@a:X", "@a:.x", "@a:x.", "@a:x..y", "@a:-x",
		" @a:x", "@a:x ", "@@a:x", "@a b:x", "@a:x\x00", "@" + long + ":x", "@a:" + long, "ed:A", strings.Repeat("@a:x", 1<<16),
	}
}

func notKeys() []string {
	long := strings.Repeat("a", api.MaxName+1)
	return []string{
		"", ":", "ed", "ed:", ":A", "ed:A:B", "ed:A:", "Ed:A", "e d:A", "ed:A-B", "ed:A=", " ed:A", "ed:A ", "@ed:A", "ed:\x00",
		long + ":A", "ed:" + long, "@a:x", strings.Repeat("ed:A", 1<<16),
	}
}

// users and keys are identifiers, the shortest and the longest among them.
func users() []string {
	long := strings.Repeat("b", api.MaxName)
	return []string{"@a:x", "@a:y", "@b:x", "@0:0", "@/:z", "@a.b_c=d-e/f:g-h.i", "@" + long + ":x", "@a:" + long, "@" + long + ":" + long}
}

func keys() []string {
	long := strings.Repeat("b", api.MaxName)
	return []string{"ed:A", "ed:B", "ed:a", "a:A", "_:_", "0:+/", "ed25519:Ab+/_9", long + ":A", "ed:" + long, long + ":" + long}
}

// invalid returns values that json.Check refuses, each with a name.
func invalid() map[string]api.Value {
	cycle := api.Value{Kind: api.Object, Keys: []string{"a"}, Parts: make([]api.Value, 1)}
	cycle.Parts[0] = cycle
	return map[string]api.Value{
		"no kind":          {},
		"no such kind":     {Kind: 8, Keys: []string{"a"}, Parts: []api.Value{null}},
		"negative kind":    {Kind: math.MinInt},
		"cycle":            cycle,
		"deep":             object("a", array(array(array(array(array(null)))))),
		"deep unsigned":    object("unsigned", array(array(array(array(array(null)))))),
		"kind":             object("a", api.Value{}),
		"kind unsigned":    object("unsigned", api.Value{Kind: 9}),
		"kind signed":      object("signatures", api.Value{}),
		"keys":             object("b", null, "a", null),
		"keys twice":       object("a", null, "a", null),
		"signatures twice": object("signatures", object(), "signatures", object()),
		"unsigned first":   object("unsigned", null, "signatures", object()),
		"keys of a user":   object("signatures", object(user, object(key, text("AAAAAA"), "a", null))),
		"users":            object("signatures", object("@b:x", object(), user, object(key, text("AAAAAA")))),
		"few parts":        {Kind: api.Object, Keys: []string{"a", "signatures"}, Parts: []api.Value{null}},
		"no parts":         {Kind: api.Object, Keys: []string{"signatures"}},
		"no keys":          {Kind: api.Object, Parts: []api.Value{null}},
		"many parts":       {Kind: api.Object, Keys: []string{"signatures"}, Parts: []api.Value{object(), null}},
		"few of a user":    object("signatures", object(user, api.Value{Kind: api.Object, Keys: []string{key}})),
		"object and text":  {Kind: api.Object, Text: "a"},
		"object and num":   {Kind: api.Object, Num: 1},
		"array with keys":  {Kind: api.Array, Keys: []string{"signatures"}, Parts: []api.Value{object()}},
		"signature's num":  object("signatures", object(user, object(key, api.Value{Kind: api.String, Text: "AAAAAA", Num: 1}))),
		"number":           object("a", num(api.MaxNumber)),
		"number unsigned":  object("unsigned", num(-api.MaxNumber)),
		"number in array":  array(num(math.MinInt)),
		"number alone":     num(math.MaxInt),
		"nodes":            object("a", flat(api.MaxNodes)),
		"nodes unsigned":   object("unsigned", flat(api.MaxNodes)),
		"nodes in array":   flat(api.MaxNodes + 1),
		"long":             object("a", text(strings.Repeat("a", api.MaxText))),
		"long by one":      object("a", text(strings.Repeat("a", api.MaxText-7))), // {"a":""} has 8
		"long unsigned":    object("unsigned", text(strings.Repeat("a", api.MaxText))),
		"long signature":   object("signatures", object(user, object(key, text(strings.Repeat("A", 3*api.MaxText))))),
		"long alone":       text(strings.Repeat("a", api.MaxText)),
	}
}

// notObjects are valid, but no objects.
func notObjects() []api.Value {
	return []api.Value{
		null, {Kind: api.False}, yes, num(0), num(-7), text(""), text("{}"), text("signatures"), array(), array(object()),
		array(object("signatures", object(user, object(key, text("AAAAAA"))))),
	}
}

func TestTextP5_1(t *testing.T) {
	for from, to := range map[string]string{
		`{}`:                                               `{}`,
		`{"a":5}`:                                          `{"a":5}`,
		`{"a":5,"unsigned":true}`:                          `{"a":5}`,
		`{"a":5,"signatures":{}}`:                          `{"a":5}`,
		`{"signatures":{}}`:                                `{}`,
		`{"unsigned":{}}`:                                  `{}`,
		`{"signatures":{},"unsigned":{}}`:                  `{}`,
		`{"unsigned":{"a":1},"signatures":1}`:              `{}`,
		`{"signatures":null,"unsigned":[1,2]}`:             `{}`,
		`{"signatures":"x","a":1}`:                         `{"a":1}`,
		`{"signatures":[],"t":1}`:                          `{"t":1}`,
		`{"unsigned":0,"z":1}`:                             `{"z":1}`,
		`{"a":1,"signatures":{},"t":2,"unsigned":3,"z":4}`: `{"a":1,"t":2,"z":4}`,
		`{"a":1,"signatures":{"@a:x":{"ed:A":"AAAAAA"}},"b":2,"t":[3],"unsigned":{},"v":null}`: `{"a":1,"b":2,"t":[3],"v":null}`,
		`{ "z" : 1 , "unsigned" : 2 , "b" : 3 , "signatures" : 4 , "a" : "\u0041" }`:           `{"a":"A","b":3,"z":1}`,
		`{"a\n\"":"\\\u0001\b","unsigned":1}`:                                                  `{"a\n\"":"\\\u0001\b"}`,
	} {
		wantText(t, parsed(t, from), to, api.OK)
	}
}

// Only these two keys are left out, and only those of the object itself.
func TestTextKeepsOtherKeys(t *testing.T) {
	for _, s := range []string{
		`{"":1}`,
		`{"Signatures":1,"Unsigned":2}`,
		`{"signature":1,"signatures ":2,"signaturesx":3}`,
		`{"unsigne":1,"unsigned ":2,"unsignedx":3}`,
		`{"signatures\u0000":1,"unsigned\u0000":2}`,
		`{" signatures":1,"xsignatures":2}`,
		`{"a":{"signatures":1,"unsigned":2}}`,
		`{"a":[{"signatures":{"@a:x":{}},"unsigned":2}]}`,
		`{"a":"signatures","b":"unsigned"}`,
	} {
		wantText(t, parsed(t, s), s, api.OK)
	}
	wantText(t, parsed(t, `{"a":{"signatures":{"unsigned":1}},"signatures":{"a":1},"signaturesx":2,"unsigned":{"signatures":1}}`),
		`{"a":{"signatures":{"unsigned":1}},"signaturesx":2}`, api.OK)
}

func TestTextOfEveryByte(t *testing.T) {
	for c := range 256 {
		s := "x" + string([]byte{byte(c)})
		v := object(s, text(s))
		wantText(t, object("signatures", object(), s, text(s)), textOf(t, v), api.OK)
	}
}

func TestListsMayBeNilOrEmpty(t *testing.T) {
	for _, v := range []api.Value{
		{Kind: api.Object},
		{Kind: api.Object, Keys: []string{}, Parts: []api.Value{}},
		{Kind: api.Object, Keys: make([]string, 0, 3), Parts: make([]api.Value, 0, 3)},
	} {
		signed := parsed(t, `{"signatures":{"@a:x":{"ed:A":"ABAOaw"}}}`)
		wantText(t, v, `{}`, api.OK)
		wantPut(t, v, user, key, 5, 2, signed, api.OK)
		wantCheck(t, v, user, key, pub5, api.ErrNone)
		wantPut(t, object("signatures", v), user, key, 5, 2, signed, api.OK)
		wantCheck(t, object("signatures", v), user, key, pub5, api.ErrNone)
		wantPut(t, object("signatures", object(user, v)), user, key, 5, 2, signed, api.OK)
		wantCheck(t, object("signatures", object(user, v)), user, key, pub5, api.ErrNone)
	}
}

// The error of json.Check comes before all others, whichever part of the value
// has it.
func TestErrorOfJSONComesFirst(t *testing.T) {
	for name, v := range invalid() {
		e := json.Check(v)
		if e == api.OK {
			t.Errorf("%s: valid", name)
			continue
		}
		if got, code := Text(v); got != "" || code != e {
			t.Errorf("%s: Text: %q %d, want %d", name, got, code, e)
		}
		for _, x := range []int{5, 0} {
			for _, u := range []string{user, ""} {
				for _, k := range []string{key, "", "\x00"} {
					if got, code := Put(v, u, k, x, x); !same(got, api.Value{}) || code != e {
						t.Errorf("%s: Put: %v %d, want %d", name, got, code, e)
					}
					if code := Check(v, u, k, x); code != e {
						t.Errorf("%s: Check: %d, want %d", name, code, e)
					}
				}
			}
		}
	}
}

func TestEveryErrorOfJSONOccurs(t *testing.T) {
	seen := map[api.Errno]bool{}
	for _, v := range invalid() {
		seen[json.Check(v)] = true
	}
	for _, e := range []api.Errno{api.ErrDeep, api.ErrKind, api.ErrForm, api.ErrRange, api.ErrSize} {
		if !seen[e] {
			t.Errorf("no value has the error %d", e)
		}
	}
}

func TestNotAnObject(t *testing.T) {
	for _, v := range notObjects() {
		wantText(t, v, "", api.ErrForm)
		for _, x := range []int{5, 0} {
			for _, u := range []string{user, ""} {
				for _, k := range []string{key, ""} {
					wantNoPut(t, v, u, k, x, x, api.ErrForm)
					wantCheck(t, v, u, k, x, api.ErrForm)
				}
			}
		}
	}
}

// The numbers are made by hand: the hash of {} with 16 is 1520, so that S is
// (2 + 5 * 1520) mod 3911 = 3691, which is 14 * 256 + 107.
func TestPutP5_2(t *testing.T) {
	wantPutText(t, `{}`, user, key, 5, 2, `{"signatures":{"@a:x":{"ed:A":"ABAOaw"}}}`)
	v := put(t, object(), user, key, 5, 2)
	b, err := base64.RawStdEncoding.DecodeString(v.Parts[0].Parts[0].Parts[0].Text)
	if err != nil || !bytes.Equal(b, []byte{0, 16, 14, 107}) {
		t.Errorf("%v: %v %v", v, b, err)
	}
	s := made(t, 5, 2, `{"a":5}`)
	wantPutText(t, `{"a":5}`, user, key, 5, 2, `{"a":5,"signatures":{"@a:x":{"ed:A":"`+s+`"}}}`)
	wantPutText(t, `{"a":5,"unsigned":true}`, user, key, 5, 2, `{"a":5,"signatures":{"@a:x":{"ed:A":"`+s+`"}},"unsigned":true}`)
}

// Members before, between and behind the two keys stay where they are.
func TestPutKeepsOtherMembers(t *testing.T) {
	for _, members := range []string{
		`"a":1`, `"t":1`, `"z":1`, `"a":1,"t":2`, `"a":1,"z":2`, `"t":1,"z":2`, `"":0,"a":[1,{"b":null}],"signature":2,"signaturesx":3,"t":"x","unsigne":4,"unsignedx":5,"z":{}`,
	} {
		s := made(t, 7, 9, `{`+members+`}`)
		added := `"signatures":{"@a:x":{"ed:A":"` + s + `"}}`
		wantPutText(t, `{`+members+`}`, user, key, 7, 9, `{`+members+`,`+added+`}`)
		wantPutText(t, `{"signatures":{},`+members+`}`, user, key, 7, 9, `{`+members+`,`+added+`}`)
		wantPutText(t, `{"unsigned":{"a":1},`+members+`}`, user, key, 7, 9, `{`+members+`,"unsigned":{"a":1},`+added+`}`)
		wantPutText(t, `{"unsigned":0,"signatures":{"@a:x":{}},`+members+`}`, user, key, 7, 9, `{`+members+`,"unsigned":0,`+added+`}`)
	}
}

func TestPutKeepsOtherSignatures(t *testing.T) {
	s := made(t, 5, 2, `{}`)
	for from, to := range map[string]string{
		`{}`:                               `{"@a:x":{"ed:A":"NEW"}}`,
		`{"@a:x":{}}`:                      `{"@a:x":{"ed:A":"NEW"}}`,
		`{"@a:x":{"ed:A":"old"}}`:          `{"@a:x":{"ed:A":"NEW"}}`,
		`{"@a:x":{"ed:B":"old"}}`:          `{"@a:x":{"ed:A":"NEW","ed:B":"old"}}`,
		`{"@a:x":{"ed:@":1}}`:              `{"@a:x":{"ed:@":1,"ed:A":"NEW"}}`,
		`{"@a:x":{"ed:@":1,"ed:AA":2}}`:    `{"@a:x":{"ed:@":1,"ed:A":"NEW","ed:AA":2}}`,
		`{"@b:x":{"ed:A":"old"}}`:          `{"@a:x":{"ed:A":"NEW"},"@b:x":{"ed:A":"old"}}`,
		`{"@a:w":{"ed:A":"old"}}`:          `{"@a:w":{"ed:A":"old"},"@a:x":{"ed:A":"NEW"}}`,
		`{"@0:x":null,"@a:x2":3,"@b:x":4}`: `{"@0:x":null,"@a:x":{"ed:A":"NEW"},"@a:x2":3,"@b:x":4}`,
		`{"@0:x":{"ed:A":1},"@a:x":{"a":1,"ed:A":"old","z":2},"not a user":[5]}`: `{"@0:x":{"ed:A":1},"@a:x":{"a":1,"ed:A":"NEW","z":2},"not a user":[5]}`,
	} {
		wantPutText(t, `{"signatures":`+from+`}`, user, key, 5, 2, `{"signatures":`+strings.ReplaceAll(to, "NEW", s)+`}`)
	}
}

// Whatever is at the key is replaced.
func TestPutReplaces(t *testing.T) {
	s := made(t, 5, 2, `{"a":1}`)
	want := `{"a":1,"signatures":{"@a:x":{"ed:A":"` + s + `"}}}`
	for _, old := range []string{
		`""`, `"x"`, `"` + s + `"`, `"AAAAAA"`, `"a longer text than that of any signature"`,
		`null`, `false`, `true`, `0`, `-5`, `[]`, `[1,[2]]`, `{}`, `{"a":{"b":1}}`, `{"ed:A":"x"}`,
	} {
		wantPutText(t, `{"a":1,"signatures":{"@a:x":{"ed:A":`+old+`}}}`, user, key, 5, 2, want)
	}
	v := parsed(t, `{"a":1}`)
	for k := 1; k < 20; k++ {
		v = put(t, v, user, key, 5, k)
		wantCheck(t, v, user, key, pub5, api.OK)
	}
	wantPut(t, v, user, key, 5, 2, parsed(t, want), api.OK)
	v = put(t, v, user, key, 6, 2)
	wantCheck(t, v, user, key, pub5, api.ErrSign)
	wantCheck(t, v, user, key, publicOf(t, 6), api.OK)
}

func TestPutOfEveryUserAndKey(t *testing.T) {
	for _, u := range users() {
		for _, k := range keys() {
			s := made(t, 5, 2, `{"a":1}`)
			wantPutText(t, `{"a":1}`, u, k, 5, 2, `{"a":1,"signatures":{"`+u+`":{"`+k+`":"`+s+`"}}}`)
			v := put(t, object(), u, k, 5, 2)
			wantCheck(t, v, u, k, pub5, api.OK)
			wantPut(t, v, u, k, 5, 2, v, api.OK)
		}
	}
}

func TestPutAndCheckOfEverySecretAndNonce(t *testing.T) {
	v := parsed(t, `{"a":"text","unsigned":1}`)
	for n := 1; n < api.Order; n++ {
		for _, secret := range [][2]int{{5, n}, {n, 2}, {n, n}} {
			s := made(t, secret[0], secret[1], `{"a":"text"}`)
			want := object("a", text("text"), "signatures", object(user, object(key, text(s))), "unsigned", num(1))
			wantPut(t, v, user, key, secret[0], secret[1], want, api.OK)
			wantCheck(t, want, user, key, publicOf(t, secret[0]), api.OK)
		}
	}
}

func TestPutErrName(t *testing.T) {
	blocked := object("signatures", null)
	for _, v := range []api.Value{object(), object("a", null), blocked, object("signatures", object("", null, user, null))} {
		for _, x := range []int{5, 0, api.Order} {
			for _, u := range notUsers() {
				wantNoPut(t, v, u, key, x, x, api.ErrName)
				wantCheck(t, v, u, key, x, api.ErrName)
			}
			for _, k := range notKeys() {
				wantNoPut(t, v, user, k, x, x, api.ErrName)
				wantCheck(t, v, user, k, x, api.ErrName)
				wantNoPut(t, v, "", k, x, x, api.ErrName)
				wantCheck(t, v, "", k, x, api.ErrName)
			}
		}
	}
	wantNoPut(t, object(), key, user, 5, 2, api.ErrName)
	wantCheck(t, object(), key, user, pub5, api.ErrName)
}

// A signature at a name that is no identifier is never looked at.
func TestCheckErrNameOfStored(t *testing.T) {
	s := made(t, 5, 2, `{}`)
	for _, u := range []string{"", "a", "@a", "@a:x:80"} {
		wantCheck(t, object("signatures", object(u, object(key, text(s)))), u, key, pub5, api.ErrName)
	}
	for _, k := range []string{"", "ed", "ed:A-B"} {
		wantCheck(t, object("signatures", object(user, object(k, text(s)))), user, k, pub5, api.ErrName)
	}
}

// On the way to the signature everything that is there must be an object.
func TestPutErrForm(t *testing.T) {
	for _, v := range notObjects() {
		if json.Check(object("signatures", object(user, v))) != api.OK {
			continue // nested too deeply
		}
		for _, x := range []int{5, 0, api.Order} {
			wantNoPut(t, object("signatures", v), user, key, x, x, api.ErrForm)
			wantNoPut(t, object("a", num(1), "signatures", v, "unsigned", yes), user, key, x, 2, api.ErrForm)
			wantNoPut(t, object("signatures", object(user, v)), user, key, 5, x, api.ErrForm)
			wantNoPut(t, object("signatures", object("@0:x", object(), user, v, "@b:x", object())), user, key, x, x, api.ErrForm)
		}
		// Of another user there may be anything.
		w := put(t, object("signatures", object("@0:x", v, "@b:x", v)), user, key, 5, 2)
		wantCheck(t, w, user, key, pub5, api.OK)
		wantCheck(t, w, "@b:x", key, pub5, api.ErrNone)
	}
}

var notSecrets = []int{
	0, -1, -5, api.Order, api.Order + 1, api.Order + 5, 5 - api.Order, api.Prime, 1 << 32, 1<<32 + 5, math.MinInt, math.MinInt + 1, math.MaxInt - 1, math.MaxInt,
}

func TestPutErrRange(t *testing.T) {
	long := object("a", text(strings.Repeat("a", api.MaxText-8)))
	many := object("a", flat(api.MaxNodes-1))
	for _, n := range notSecrets {
		for _, v := range []api.Value{object(), object("a", num(1)), object("signatures", object(user, object(key, text("x")))), long, many} {
			wantNoPut(t, v, user, key, n, 2, api.ErrRange)
			wantNoPut(t, v, user, key, 5, n, api.ErrRange)
			wantNoPut(t, v, user, key, n, n, api.ErrRange)
		}
	}
}

// How many values a result may add depends on the objects that are there.
func TestPutErrSizeOfNodes(t *testing.T) {
	const most = api.MaxNodes
	for n := most - 5; n <= most; n++ {
		for _, c := range []struct {
			v     api.Value
			added int
		}{
			{object("a", flat(n-1)), 3},
			{object("a", flat(n-2), "unsigned", null), 3},
			{object("a", flat(n-2), "signatures", object()), 2},
			{object("a", flat(n-3), "signatures", object("@b:x", null)), 2},
			{object("a", flat(n-3), "signatures", object(user, object())), 1},
			{object("a", flat(n-4), "signatures", object(user, object("ed:B", null))), 1},
			{object("a", flat(n-4), "signatures", object(user, object(key, null))), 0},
			{object("a", flat(n-6), "signatures", object(user, object(key, array(null, null)))), -2},
		} {
			wantText(t, c.v, textOf(t, object("a", c.v.Parts[0])), api.OK)
			if n+c.added > most {
				wantNoPut(t, c.v, user, key, 5, 2, api.ErrSize)
			} else {
				wantCheck(t, put(t, c.v, user, key, 5, 2), user, key, pub5, api.OK)
			}
		}
	}
}

func TestPutErrSizeOfText(t *testing.T) {
	sealedLength := len(textOf(t, put(t, object("a", text("")), user, key, 5, 2)))
	for n := api.MaxText - sealedLength - 3; n <= api.MaxText-sealedLength+3; n++ {
		v := object("a", text(strings.Repeat("x", n)))
		if sealedLength+n > api.MaxText {
			wantNoPut(t, v, user, key, 5, 2, api.ErrSize)
		} else {
			wantCheck(t, put(t, v, user, key, 5, 2), user, key, pub5, api.OK)
		}
	}
	// A text that replaces one of the same length, or a longer one, has room.
	full := object("a", text(strings.Repeat("x", api.MaxText-sealedLength)), "signatures", object(user, object(key, text("AAAAAA"))))
	if n := len(textOf(t, full)); n != api.MaxText {
		t.Fatalf("%d bytes", n)
	}
	full = put(t, full, user, key, 5, 2)
	wantCheck(t, full, user, key, pub5, api.OK)
	wantNoPut(t, full, user, "ed:B", 5, 2, api.ErrSize)
	wantNoPut(t, full, "@b:x", key, 5, 2, api.ErrSize)
	full.Parts[1] = object(user, object(key, text("AAAAA")))
	wantCheck(t, put(t, full, user, key, 5, 2), user, key, pub5, api.OK)
	full.Parts[0].Text += "x"
	wantNoPut(t, full, user, key, 5, 2, api.ErrSize)
	long := object("signatures", object(user, object(key, text(strings.Repeat("A", api.MaxText-len(`{"signatures":{"@a:x":{"ed:A":""}}}`))))))
	if n := len(textOf(t, long)); n != api.MaxText {
		t.Fatalf("%d bytes", n)
	}
	wantPut(t, long, user, key, 5, 2, parsed(t, `{"signatures":{"@a:x":{"ed:A":"ABAOaw"}}}`), api.OK)
	wantCheck(t, long, user, key, pub5, api.ErrForm)
}

// A signed text of MaxText bytes can be made, but has no room for a signature.
func TestLongestText(t *testing.T) {
	for _, c := range []struct {
		length int
		code   api.Errno
	}{{api.MaxText - 1, api.OK}, {api.MaxText, api.OK}, {api.MaxText + 1, api.ErrSize}, {api.MaxText + 2, api.ErrSize}} {
		v := object("a", text(strings.Repeat("x", c.length-8)))
		want := `{"a":"` + strings.Repeat("x", c.length-8) + `"}`
		if c.code != api.OK {
			want = ""
		}
		wantText(t, v, want, c.code)
		wantNoPut(t, v, user, key, 5, 2, api.ErrSize)
		if c.code == api.OK {
			wantNoPut(t, v, user, key, 0, 2, api.ErrRange)
			wantNoPut(t, v, "a", key, 0, 2, api.ErrName)
			wantCheck(t, v, user, key, pub5, api.ErrNone)
			wantCheck(t, v, user, "ed", pub5, api.ErrName)
		} else {
			wantNoPut(t, v, "a", key, 0, 2, api.ErrSize)
			wantCheck(t, v, user, "ed", pub5, api.ErrSize)
		}
	}
}

func TestCheckP5_3(t *testing.T) {
	v := parsed(t, `{"signatures":{"@a:x":{"ed:A":"ABAOaw"}}}`)
	wantCheck(t, v, user, key, pub5, api.OK)
	wantCheck(t, v, "@b:x", key, pub5, api.ErrNone)
	wantCheck(t, v, user, "ed:B", pub5, api.ErrNone)
	wantCheck(t, v, user, key, 4, api.ErrSign)
	wantCheck(t, v, "a", key, pub5, api.ErrName)
	wantCheck(t, v, user, "ed", pub5, api.ErrName)
	wantCheck(t, object(), user, key, pub5, api.ErrNone)
	wantCheck(t, parsed(t, `{"a":1,"signatures":{"@a:x":{"ed:A":"ABAOaw"}}}`), user, key, pub5, api.ErrSign)
	wantCheck(t, parsed(t, `{"signatures":{"@a:x":{"ed:A":"ABAOaw"}},"unsigned":[1]}`), user, key, pub5, api.OK)
	wantCheck(t, parsed(t, `{"signatures":{"@a:x":{"ed:A":"ABAOag"}}}`), user, key, pub5, api.ErrSign) // S is 3690
	wantCheck(t, parsed(t, `{"signatures":{"@a:x":{"ed:A":"AEAOaw"}}}`), user, key, pub5, api.ErrSign) // R is 64
}

// The example of the document: two users sign, and then a number is changed.
func TestTwoUsersSign(t *testing.T) {
	v := put(t, parsed(t, `{"n":5,"z":"text"}`), "@a:x", "ed:A", 5, 2)
	signed, _ := Text(v)
	v.Keys = []string{"n", "signatures", "unsigned", "z"}
	v.Parts = []api.Value{v.Parts[0], v.Parts[1], object("age", num(7)), v.Parts[2]}
	v = put(t, v, "@b:y", "ed:B", 11, 3)
	v = put(t, v, "@a:x", "ed:B", 12, 4)
	wantText(t, v, signed, api.OK)
	codes := func(code api.Errno) {
		t.Helper()
		wantCheck(t, v, "@a:x", "ed:A", pub5, code)
		wantCheck(t, v, "@b:y", "ed:B", publicOf(t, 11), code)
		wantCheck(t, v, "@a:x", "ed:B", publicOf(t, 12), code)
		wantCheck(t, v, "@b:y", "ed:A", pub5, api.ErrNone)
		wantCheck(t, v, "@b:y", "ed:B", pub5, api.ErrSign)
		wantCheck(t, v, "@a:x", "ed:A", publicOf(t, 12), api.ErrSign)
	}
	codes(api.OK)
	v.Parts[2].Parts[0].Num = 8
	codes(api.OK)
	v.Parts[0].Num = 6
	codes(api.ErrSign)
	v.Parts[0].Num = 5
	codes(api.OK)
	v.Keys[0] = "m"
	codes(api.ErrSign)
	v.Keys[0] = "n"
	v.Parts[3].Text = "texts"
	codes(api.ErrSign)
}

// Nobody's signature depends on those of others.
func TestSignaturesInAnyOrder(t *testing.T) {
	type one struct {
		user, key string
		x, k      int
	}
	var all []one
	for i, u := range []string{"@b:x", "@a:x", "@c:x", "@a:w"} {
		for j, k := range []string{"ed:B", "ed:A", "a:Z"} {
			all = append(all, one{u, k, 100 + 10*i + j, 7 + i + j})
		}
	}
	want := ""
	random := rand.New(rand.NewSource(5))
	for range 50 {
		random.Shuffle(len(all), func(i, j int) { all[i], all[j] = all[j], all[i] })
		v := parsed(t, `{"m":{"a":[]},"unsigned":1}`)
		for n, o := range all {
			wantCheck(t, v, o.user, o.key, publicOf(t, o.x), api.ErrNone)
			v = put(t, v, o.user, o.key, o.x, o.k)
			for _, p := range all[:n+1] {
				wantCheck(t, v, p.user, p.key, publicOf(t, p.x), api.OK)
				wantCheck(t, v, p.user, p.key, publicOf(t, p.x+1), api.ErrSign)
			}
		}
		got := textOf(t, v)
		if want == "" {
			want = got
		}
		if got != want {
			t.Errorf("%s, want %s", got, want)
		}
	}
}

// Wherever there is no String, the public key does not matter.
func TestCheckErrNone(t *testing.T) {
	for _, s := range []string{
		`{}`, `{"a":1}`, `{"ed:A":"AAAAAA"}`, `{"@a:x":{"ed:A":"AAAAAA"}}`,
		`{"unsigned":{"@a:x":{"ed:A":"AAAAAA"}}}`, `{"unsigned":{"signatures":{"@a:x":{"ed:A":"AAAAAA"}}}}`,
		`{"signaturesx":{"@a:x":{"ed:A":"AAAAAA"}}}`, `{"a":{"signatures":{"@a:x":{"ed:A":"AAAAAA"}}}}`,
		`{"signatures":null}`, `{"signatures":true}`, `{"signatures":5}`, `{"signatures":"AAAAAA"}`, `{"signatures":[]}`,
		`{"signatures":[{"@a:x":{"ed:A":"AAAAAA"}}]}`, `{"signatures":{}}`, `{"signatures":{"ed:A":"AAAAAA"}}`,
		`{"signatures":{"ed:A":{"@a:x":"AAAAAA"}}}`, `{"signatures":{"signatures":{"@a:x":{"ed:A":"AAAAAA"}}}}`,
		`{"signatures":{"@b:x":{"ed:A":"AAAAAA"}}}`, `{"signatures":{"@a:w":{"ed:A":"AAAAAA"},"@a:x2":{"ed:A":"AAAAAA"}}}`,
		`{"signatures":{"@a:x":null}}`, `{"signatures":{"@a:x":"AAAAAA"}}`, `{"signatures":{"@a:x":["AAAAAA"]}}`,
		`{"signatures":{"@a:x":0}}`, `{"signatures":{"@a:x":{}}}`, `{"signatures":{"@a:x":{"ed:B":"AAAAAA"}}}`,
		`{"signatures":{"@a:x":{"ed:@":"AAAAAA","ed:AA":"AAAAAA"}}}`,
		`{"signatures":{"@a:x":{"ed:A":null}}}`, `{"signatures":{"@a:x":{"ed:A":false}}}`, `{"signatures":{"@a:x":{"ed:A":true}}}`,
		`{"signatures":{"@a:x":{"ed:A":0}}}`, `{"signatures":{"@a:x":{"ed:A":[]}}}`, `{"signatures":{"@a:x":{"ed:A":["AAAAAA"]}}}`,
		`{"signatures":{"@a:x":{"ed:A":{}}}}`, `{"signatures":{"@a:x":{"ed:A":{"ed:A":"AAAAAA"}}}}`,
	} {
		for _, pub := range []int{pub5, 4, 0, 1, -1, 5, math.MinInt, math.MaxInt} {
			wantCheck(t, parsed(t, s), user, key, pub, api.ErrNone)
		}
	}
}

// stored is an object with the text s as its signature.
func stored(s string) api.Value {
	return object("signatures", object(user, object(key, text(s))))
}

// A text of another form is found before the numbers in it, or the public key.
func TestCheckErrForm(t *testing.T) {
	bad := []string{
		"", "A", "AA", "AAA", "AAAA", "AAAAA", "AAAAAAA", "AAAAAAAA", "AAAAAAAAA", "AAAAAAAAAA", "AAAAAAAAAAA",
		"AAAAAB", "AAAAAC", "AAAAAI", "AAAAAP", "AAAAA/", "ABAOax", "ABAOaz", // unused bits
		"ABAOa", "ABAOaw=", "ABAOaw==", " ABAOaw", "ABAOaw ", "ABAO aw", "ABAOaw\n", "ABA-aw", "ABA_aw", "ABAOa\x00", "ABAOa\xff", "ABAOa=",
		"\"ABAOaw\"", "{}", "ABAOawA", "ABAOawAA", strings.Repeat("A", 500),
	}
	for n := range 13 {
		if n != 4 {
			bad = append(bad, base64.RawStdEncoding.EncodeToString(make([]byte, n)), base64.RawStdEncoding.EncodeToString(bytes.Repeat([]byte{255}, n)))
		}
	}
	for _, s := range bad {
		for _, pub := range []int{pub5, 4, 0, 1, 5, -1, api.Prime, math.MinInt, math.MaxInt} {
			wantCheck(t, stored(s), user, key, pub, api.ErrForm)
		}
	}
	wantCheck(t, stored("ABAOaw"), user, key, pub5, api.OK)
}

// All two bytes of a number that matter, at the places of R and of S.
func TestCheckOfEveryNumber(t *testing.T) {
	good, _ := sign.Make(5, 2, []byte("{}"))
	for n := range 1 << 16 {
		if n > api.Prime+300 && n%251 != 0 && n%256 != 255 {
			continue
		}
		for _, s := range []api.Sign{{R: n, S: good.S}, {R: good.R, S: n}, {R: n, S: n}} {
			wantCheck(t, stored(encoded(s)), user, key, pub5, sign.Check(pub5, []byte("{}"), s))
		}
	}
	for _, s := range []api.Sign{{}, {R: 1}, {R: 0, S: good.S}, {R: 5, S: good.S}, {R: api.Prime + good.R, S: good.S}, {R: good.R, S: api.Order}, {R: good.R, S: good.S + api.Order}, {R: 65535, S: 65535}, {R: good.S, S: good.R + api.Order}} {
		wantCheck(t, stored(encoded(s)), user, key, pub5, api.ErrRange)
	}
}

func TestCheckOfEveryKey(t *testing.T) {
	v := put(t, parsed(t, `{"a":[1,2]}`), user, key, 5, 2)
	s, _ := sign.Make(5, 2, []byte(`{"a":[1,2]}`))
	for pub := -10; pub < api.Prime+10; pub++ {
		wantCheck(t, v, user, key, pub, sign.Check(pub, []byte(`{"a":[1,2]}`), s))
	}
	for _, pub := range []int{0, 1, -1, 5, api.Prime - 1, api.Prime, api.Prime + pub5, pub5 - api.Prime, 1<<32 + pub5, math.MinInt, math.MaxInt} {
		wantCheck(t, v, user, key, pub, api.ErrRange)
	}
}

// Whichever byte of the signed text is another one, the signature is invalid.
func TestEveryByteIsSigned(t *testing.T) {
	const s = "a text of some length"
	v := put(t, object("a", text(s), "z", object("b", array(num(4)))), user, key, 99, 100)
	pub := publicOf(t, 99)
	for i := range len(s) {
		w := copied(v)
		w.Parts[0].Text = s[:i] + string([]byte{s[i] + 1}) + s[i+1:]
		wantCheck(t, w, user, key, pub, api.ErrSign)
		w.Parts[0].Text = s[:i] + s[i+1:]
		wantCheck(t, w, user, key, pub, api.ErrSign)
	}
	w := copied(v)
	w.Parts[2].Parts[0].Parts[0].Num = 5
	wantCheck(t, w, user, key, pub, api.ErrSign)
	w.Parts[2].Parts[0].Parts[0].Num = 4
	wantCheck(t, w, user, key, pub, api.OK)
	w.Parts[2].Keys[0] = "c"
	wantCheck(t, w, user, key, pub, api.ErrSign)
}

// roomy is v with spare capacity behind each list, filled with marks.
func roomy(v api.Value) api.Value {
	names, parts := []string{}, []api.Value{}
	names = append(names, v.Keys...)
	for _, part := range v.Parts {
		parts = append(parts, roomy(part))
	}
	for range 4 {
		names = append(names, "mark")
		parts = append(parts, text("mark"))
	}
	v.Keys = names[:len(v.Keys)]
	v.Parts = parts[:len(v.Parts)]
	return v
}

// hasMarks reports whether all is as roomy has left it.
func hasMarks(v api.Value) bool {
	for _, s := range v.Keys[len(v.Keys) : len(v.Keys)+4] {
		if s != "mark" {
			return false
		}
	}
	for _, part := range v.Parts[len(v.Parts) : len(v.Parts)+4] {
		if !same(part, text("mark")) {
			return false
		}
	}
	return !slices.ContainsFunc(v.Parts, func(part api.Value) bool { return !hasMarks(part) })
}

// spoil overwrites all lists of v, with their spare capacity.
func spoil(v api.Value) {
	for _, part := range v.Parts {
		spoil(part)
	}
	for i := range v.Keys[:cap(v.Keys)] {
		v.Keys[:cap(v.Keys)][i] = "spoilt"
	}
	for i := range v.Parts[:cap(v.Parts)] {
		v.Parts[:cap(v.Parts)][i] = text("spoilt")
	}
}

// spoilSpare overwrites only the spare capacity.
func spoilSpare(v api.Value) {
	for _, part := range v.Parts {
		spoilSpare(part)
	}
	for i := len(v.Keys); i < cap(v.Keys); i++ {
		v.Keys[:cap(v.Keys)][i] = "spoilt"
	}
	for i := len(v.Parts); i < cap(v.Parts); i++ {
		v.Parts[:cap(v.Parts)][i] = text("spoilt")
	}
}

// shapes are objects that have none, some or all of the way to a signature.
func shapes() []string {
	return []string{
		`{}`,
		`{"a":[1,{"b":[]}],"z":{"y":null}}`,
		`{"signatures":{},"unsigned":{"a":[1]}}`,
		`{"a":[1],"signatures":{"@0:x":{"ed:A":"AAAAAA"},"@b:x":{}},"t":{},"unsigned":[[]],"z":1}`,
		`{"a":[1],"signatures":{"@a:x":{}},"z":1}`,
		`{"a":[1],"signatures":{"@a:x":{"ed:0":[],"ed:B":"AAAAAA"}},"z":1}`,
		`{"a":[1],"signatures":{"@a:x":{"ed:A":"AAAAAA"}},"z":1}`,
		`{"a":[1],"signatures":{"@a:x":{"ed:A":{"a":[2]}}},"z":1}`,
		`{"signatures":[1],"unsigned":{"b":2}}`,
		`{"signatures":{"@a:x":[1]}}`,
		`[{"signatures":{}}]`,
	}
}

func TestArgumentsStayAsTheyAre(t *testing.T) {
	for _, s := range shapes() {
		was := parsed(t, s)
		v := roomy(was)
		Text(v)
		for _, x := range []int{5, 0} {
			Put(v, user, key, x, 2)
			Put(v, user, "ed", x, 2)
			Check(v, user, key, pub5)
			Check(v, "@b:x", key, x)
		}
		if !same(v, was) || !hasMarks(v) {
			t.Errorf("%v became %v", was, v)
		}
	}
}

// What is done to a result is not seen in the argument, and the other way
// round.
func TestResultsShareNoMemoryWithArguments(t *testing.T) {
	for _, s := range shapes() {
		v := roomy(parsed(t, s))
		w, e := Put(v, user, key, 5, 2)
		if e != api.OK {
			continue
		}
		want := copied(w)
		spoil(w)
		if !same(v, parsed(t, s)) || !hasMarks(v) {
			t.Errorf("%s became %v", s, v)
		}
		w = put(t, v, user, key, 5, 2)
		spoil(v)
		if !same(w, want) {
			t.Errorf("%v, want %v", w, want)
		}
	}
}

func TestListsOfAResultShareNoMemory(t *testing.T) {
	for _, s := range shapes() {
		w, e := Put(parsed(t, s), user, key, 5, 2)
		if e != api.OK {
			continue
		}
		want := copied(w)
		spoilSpare(w)
		if !same(w, want) {
			t.Errorf("%v, want %v", w, want)
		}
	}
	// Here the lists of the argument are one and the same.
	parts := []api.Value{num(1), num(2)}
	names := []string{"a", "b"}
	inner := api.Value{Kind: api.Object, Keys: names, Parts: parts}
	v := object("a", inner, "b", inner, "c", array(parts...), "signatures", object(user, inner))
	v.Parts[2].Parts = parts
	w := put(t, v, user, key, 5, 2)
	w.Parts[0].Parts[0].Num = 9
	w.Parts[1].Keys[0] = "A"
	w.Parts[2].Parts[1].Num = 8
	want := object("a", object("a", num(9), "b", num(2)), "b", object("A", num(1), "b", num(2)), "c", array(num(1), num(8)),
		"signatures", object(user, object("a", num(1), "b", num(2), key, w.Parts[3].Parts[0].Parts[2])))
	if !same(w, want) || !same(inner, object("a", num(1), "b", num(2))) {
		t.Errorf("%v, want %v; %v", w, want, inner)
	}
}

// A call says the same whatever was called before it.
func TestNothingIsKept(t *testing.T) {
	v := parsed(t, `{"a":1}`)
	w := put(t, v, user, key, 5, 2)
	v.Parts[0].Num = 2
	wantCheck(t, put(t, v, user, key, 5, 2), user, key, pub5, api.OK)
	for range 3 {
		wantText(t, v, `{"a":2}`, api.OK)
		wantText(t, w, `{"a":1}`, api.OK)
		wantCheck(t, w, user, key, pub5, api.OK)
		wantPut(t, parsed(t, `{"a":1}`), user, key, 5, 2, w, api.OK)
	}
}

// tree, likeText and the functions that follow say what the chapter says once
// more, with the maps of the standard library.
func tree(t *testing.T, s string) map[string]any {
	t.Helper()
	d := stdjson.NewDecoder(strings.NewReader(s))
	d.UseNumber()
	var m map[string]any
	if err := d.Decode(&m); err != nil {
		t.Fatalf("%q: %v", s, err)
	}
	return m
}

func written(t *testing.T, m map[string]any) string {
	t.Helper()
	var b bytes.Buffer
	w := stdjson.NewEncoder(&b)
	w.SetEscapeHTML(false)
	if err := w.Encode(m); err != nil {
		t.Fatalf("%v: %v", m, err)
	}
	return strings.TrimSuffix(b.String(), "\n")
}

func likeText(t *testing.T, v api.Value) (string, api.Errno) {
	t.Helper()
	if e := json.Check(v); e != api.OK {
		return "", e
	}
	if v.Kind != api.Object {
		return "", api.ErrForm
	}
	m := tree(t, textOf(t, v))
	delete(m, "signatures")
	delete(m, "unsigned")
	return written(t, m), api.OK
}

// below returns the object at a key, a new one if nothing is there, and false
// if something else is.
func below(m map[string]any, key string) (map[string]any, bool) {
	if _, found := m[key]; !found {
		m[key] = map[string]any{}
	}
	o, ok := m[key].(map[string]any)
	return o, ok
}

func likePut(t *testing.T, v api.Value, user, key string, isNamed bool, x, k int) (api.Value, api.Errno) {
	t.Helper()
	signed, e := likeText(t, v)
	if e != api.OK {
		return api.Value{}, e
	}
	if !isNamed {
		return api.Value{}, api.ErrName
	}
	m := tree(t, textOf(t, v))
	all, ok := below(m, "signatures")
	if !ok {
		return api.Value{}, api.ErrForm
	}
	one, ok := below(all, user)
	if !ok {
		return api.Value{}, api.ErrForm
	}
	s, e := sign.Make(x, k, []byte(signed))
	if e != api.OK {
		return api.Value{}, e
	}
	one[key] = encoded(s)
	return json.Parse(written(t, m))
}

func likeCheck(t *testing.T, v api.Value, user, key string, isNamed bool, pub int) api.Errno {
	t.Helper()
	signed, e := likeText(t, v)
	if e != api.OK {
		return e
	}
	if !isNamed {
		return api.ErrName
	}
	all, _ := tree(t, textOf(t, v))["signatures"].(map[string]any)
	one, _ := all[user].(map[string]any)
	s, ok := one[key].(string)
	if !ok {
		return api.ErrNone
	}
	b, err := base64.RawStdEncoding.Strict().DecodeString(s)
	if err != nil || len(b) != 4 || strings.ContainsAny(s, "\r\n") {
		return api.ErrForm
	}
	return sign.Check(pub, []byte(signed), api.Sign{R: 256*int(b[0]) + int(b[1]), S: 256*int(b[2]) + int(b[3])})
}

// pick returns one of the items.
func pick[T any](random *rand.Rand, items ...T) T {
	return items[random.Intn(len(items))]
}

// someValue returns a value, which is most often valid.
func someValue(random *rand.Rand, depth int) api.Value {
	switch n := random.Intn(40); {
	case n == 0:
		return pick(random, api.Value{}, api.Value{Kind: 8}, num(api.MaxNumber), api.Value{Kind: api.Null, Num: 1})
	case n < 10 && depth > 0:
		v := array()
		for range random.Intn(4) {
			v.Parts = append(v.Parts, someValue(random, depth-1))
		}
		return v
	case n < 20 && depth > 0:
		return someObject(random, depth, "", "a", "b", "signatures", "unsigned", user, key)
	case n < 30:
		return text(pick(random, "", "x", "AAAAAA", "ABAOaw", "ABAOax", "\n\"\\é", strings.Repeat("y", 100)))
	}
	return pick(random, null, yes, num(random.Intn(5)), num(-7))
}

// someObject returns an object with some of the keys.
func someObject(random *rand.Rand, depth int, keys ...string) api.Value {
	slices.Sort(keys)
	v := api.Value{Kind: api.Object}
	for _, k := range keys {
		if random.Intn(3) == 0 {
			v.Keys = append(v.Keys, k)
			v.Parts = append(v.Parts, someValue(random, depth-1))
		}
	}
	return v
}

// someSigned returns an object that often has signatures.
func someSigned(random *rand.Rand) api.Value {
	v := someObject(random, 3, "a", "b", "signature", "t", "unsigned", "z", pick(random, "", strings.Repeat("k", random.Intn(500))))
	if random.Intn(4) == 0 {
		return v
	}
	all := someObject(random, 2, "@0:x", "@c:x")
	for _, u := range []string{"@a:x", "@b:x"} {
		if random.Intn(2) == 0 {
			all = store(all, []string{u}, pick(random, someValue(random, 1), someObject(random, 1, "ed:A", "ed:B", "ed:C"), someObject(random, 1, "ed:A", "ed:B")))
		}
	}
	return store(v, []string{"signatures"}, pick(random, all, all, all, someValue(random, 2)))
}

// wantAllLike compares all functions with what the chapter says once more.
func wantAllLike(t *testing.T, v api.Value, user, key string, isNamed bool, x, k, pub int) {
	t.Helper()
	signed, code := likeText(t, v)
	wantText(t, v, signed, code)
	w, code := likePut(t, v, user, key, isNamed, x, k)
	wantPut(t, v, user, key, x, k, w, code)
	wantCheck(t, v, user, key, pub, likeCheck(t, v, user, key, isNamed, pub))
	wantCheck(t, w, user, key, pub, likeCheck(t, w, user, key, isNamed, pub))
	if code == api.OK {
		wantCheck(t, w, user, key, publicOf(t, x), api.OK)
		wantText(t, w, signed, api.OK)
	}
}

func TestManyValues(t *testing.T) {
	random := rand.New(rand.NewSource(5))
	seen := map[api.Errno]int{}
	for range 20000 {
		v := someSigned(random)
		if random.Intn(20) == 0 {
			v = someValue(random, 3)
		}
		u, k := pick(random, "@a:x", "@b:x", "@a:x", "@b:x", "@A:x"), pick(random, "ed:A", "ed:B", "ed:A", "ed:B", "ed")
		x, nonce := pick(random, 5, 7, 1, api.Order-1, 5, 7, 0, api.Order), pick(random, 2, 3, 1, api.Order-1, 2, 3, 0, -1)
		wantAllLike(t, v, u, k, u != "@A:x" && k != "ed", x, nonce, pick(random, pub5, 4, 0, 5))
		_, e := Put(v, u, k, x, nonce)
		seen[e]++
	}
	for _, e := range []api.Errno{api.OK, api.ErrKind, api.ErrForm, api.ErrRange, api.ErrSize, api.ErrName} {
		if seen[e] < 20 {
			t.Errorf("Put returned %d only %d times: %v", e, seen[e], seen)
		}
	}
}

func FuzzSeal(f *testing.F) {
	for _, s := range shapes() {
		f.Add(s, user, key, 5, 2, pub5)
	}
	f.Add(`{"signatures":{"@a:x":{"ed:A":"ABAOaw"}}}`, user, key, 0, api.Order, pub5)
	f.Add(`{"a":1}`, "@a", "ed:A", 5, 2, -1)
	f.Fuzz(func(t *testing.T, s, user, key string, x, k, pub int) {
		v, e := json.Parse(s)
		canonical, _ := json.Text(v)
		// The standard library writes these in another way.
		if e != api.OK || !utf8.ValidString(canonical) || strings.ContainsAny(canonical, "\u2028\u2029") {
			return
		}
		_, e = Put(object(), user, key, 5, 2)
		wantAllLike(t, v, user, key, e != api.ErrName, x, k, pub)
	})
}
