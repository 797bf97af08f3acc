package names

import (
	"math/rand"
	"regexp"
	"strings"
	"testing"
	"unsafe"

	"bagnall/api"
)

const most = api.MaxName

// The forms of the chapter once more, written another way.
var (
	localForm  = regexp.MustCompile(`\A[a-z0-9._=/-]{1,20}\z`)
	serverForm = regexp.MustCompile(`\A[a-z0-9]([.-]*[a-z0-9])*\z`)
	dotForm    = regexp.MustCompile(`[.-]\.`)
	userForm   = regexp.MustCompile(`\A@([^:]*):([^:]*)\z`)
	keyForm    = regexp.MustCompile(`\A([a-z0-9_]{1,20}):([A-Za-z0-9_+/]{1,20})\z`)
)

func likeServer(s string) bool {
	return len(s) <= 20 && serverForm.MatchString(s) && !dotForm.MatchString(s)
}

func likeUser(s string) (string, string, api.Errno) {
	m := userForm.FindStringSubmatch(s)
	if m == nil || !localForm.MatchString(m[1]) || !likeServer(m[2]) {
		return "", "", api.ErrForm
	}
	return m[1], m[2], api.OK
}

func likeKey(s string) (string, string, api.Errno) {
	m := keyForm.FindStringSubmatch(s)
	if m == nil {
		return "", "", api.ErrForm
	}
	return m[1], m[2], api.OK
}

func wantLocal(t *testing.T, s string, want bool) {
	t.Helper()
	if got := Local(s); got != want {
		t.Errorf("Local(%q): %v", s, got)
	}
}

func wantServer(t *testing.T, s string, want bool) {
	t.Helper()
	if got := Server(s); got != want {
		t.Errorf("Server(%q): %v", s, got)
	}
}

func wantUser(t *testing.T, s, local, server string, code api.Errno) {
	t.Helper()
	if l, r, e := User(s); l != local || r != server || e != code {
		t.Errorf("User(%q): %q %q %d, want %q %q %d", s, l, r, e, local, server, code)
	}
}

func wantKey(t *testing.T, s, kind, id string, code api.Errno) {
	t.Helper()
	if k, i, e := Key(s); k != kind || i != id || e != code {
		t.Errorf("Key(%q): %q %q %d, want %q %q %d", s, k, i, e, kind, id, code)
	}
}

// wantNoUser and wantNoKey say that there is an error, and nothing beside it.
func wantNoUser(t *testing.T, s string) {
	t.Helper()
	wantUser(t, s, "", "", api.ErrForm)
}

func wantNoKey(t *testing.T, s string) {
	t.Helper()
	wantKey(t, s, "", "", api.ErrForm)
}

// userIf and keyIf say that the two parts make an identifier, or that they do
// not.
func userIf(t *testing.T, good bool, local, server string) {
	t.Helper()
	if good {
		wantUser(t, "@"+local+":"+server, local, server, api.OK)
	} else {
		wantNoUser(t, "@"+local+":"+server)
	}
}

func keyIf(t *testing.T, good bool, kind, id string) {
	t.Helper()
	if good {
		wantKey(t, kind+":"+id, kind, id, api.OK)
	} else {
		wantNoKey(t, kind+":"+id)
	}
}

func isSmallOrDigit(c byte) bool { return c >= 'a' && c <= 'z' || c >= '0' && c <= '9' }

func isLocalByte(c byte) bool {
	return isSmallOrDigit(c) || c == '.' || c == '_' || c == '=' || c == '-' || c == '/'
}

func isServerByte(c byte) bool { return isSmallOrDigit(c) || c == '.' || c == '-' }

func isKindByte(c byte) bool { return isSmallOrDigit(c) || c == '_' }

func isIdByte(c byte) bool {
	return isSmallOrDigit(c) || c >= 'A' && c <= 'Z' || c == '_' || c == '+' || c == '/'
}

func TestLocalP3_1(t *testing.T) {
	for _, s := range []string{
		"a", "z", "0", "9", ".", "_", "=", "-", "/", "a.b", "alice", "a_b=c-d/e.f", "007",
		"..", "--", "//", "==", "__", ".-_=/", "-.", "./..", "abcdefghijklmnopqrst", "uvwxyz0123456789._=-",
	} {
		wantLocal(t, s, true)
	}
	for _, s := range []string{
		"", "A", "Z", "aB", "a b", " ", "a ", " a", "a\n", "\na", "a\x00", "\x00", "@a", "a@", "a:b", ":", "a+b",
		"a,b", "a\\b", "a~", "a%20", "é", "ß", "aé", "\xff", "a\x80", "ａ", "\u212a", "a\u0301", "a\u200bb", "٣",
	} {
		wantLocal(t, s, false)
	}
}

func TestServerP3_1(t *testing.T) {
	for _, s := range []string{
		"a", "z", "0", "9", "a.b", "a-b", "example.org", "a-b.c", "a.b-c.d", "127.0.0.1", "1", "x--y", "xn--a.b",
		"a.-b", "a---b", "a.--b", "a.b.c.d.e", "a-b-c", "0-0.0", "abcdefghijklmnopqrst", "uvwxyz.0123456789--a",
	} {
		wantServer(t, s, true)
	}
	for _, s := range []string{
		"", ".", "-", "..", "--", ".-", "-.", ".a", "-a", "a.", "a-", ".a.", "-a-", "a..b", "a-.b", "a...b", "a.-.b",
		"a--.b", "a..", "..a", "a.b..c", "a-.c", "a.b.", "a:1", "a:80", "a.b:8448", "a:", ":a", "a_b", "a=b", "a/b",
		"A", "a.B", "a b", " a", "a ", "a\n", "a\x00", "@a", "é.b", "\xff", "a\x80b", "ａ", "[::1]", "::1", "*", "a+b",
	} {
		wantServer(t, s, false)
	}
}

func TestUserP3_2(t *testing.T) {
	wantUser(t, "@a:b", "a", "b", api.OK)
	wantUser(t, "@alice:example.org", "alice", "example.org", api.OK)
	wantUser(t, "@a.b=/:x-1.y", "a.b=/", "x-1.y", api.OK)
	wantUser(t, "@.:0", ".", "0", api.OK)
	wantUser(t, "@-.._=/:a.-b", "-.._=/", "a.-b", api.OK)
	wantUser(t, "@1:127.0.0.1", "1", "127.0.0.1", api.OK)
	for _, s := range []string{
		"", "@", ":", "@:", "a", "@a", "a:b", "a@b", "@a@b", "@ab", // a sign is missing
		"@:b", "@a:", "@a:b:", "@:a:b", "@a::b", "@::", "@a:b:c", "@a:b:80", "@a:b:8448", ":a:b", "@a:b::",
		"@@a:b", "@a@:b", "@a:@b", "@a:b@", "@@", "@@:b", "a@:b", "a@b:c", "@a@b:c", "@a:b@c:d",
		"@A:b", "@a:B", "@a:.b", "@a:b.", "@a:-b", "@a:b-", "@a:x..y", "@a:x-.y", "@a:x_y", "@a:x/y", "@a:x=y",
		" @a:b", "@a:b ", "@ a:b", "@a :b", "@a: b", "@a:b\n", "\n@a:b", "@a:b\x00", "\x00@a:b", "@a;b", "@a：b",
		"@é:b", "@a:é", "@\xff:b", "@a:\xff", "\xff", "＠a:b", "#a:b", "!a:b", "+a:b", "@a+b:c",
	} {
		wantNoUser(t, s)
	}
}

func TestKeyP3_2(t *testing.T) {
	wantKey(t, "ed:A", "ed", "A", api.OK)
	wantKey(t, "ed25519:Ab+/", "ed25519", "Ab+/", api.OK)
	wantKey(t, "signed_curve25519:AAAAHg", "signed_curve25519", "AAAAHg", api.OK)
	wantKey(t, "_:_", "_", "_", api.OK)
	wantKey(t, "0:/", "0", "/", api.OK)
	wantKey(t, "9_z:+", "9_z", "+", api.OK)
	wantKey(t, "a:0", "a", "0", api.OK)
	for _, s := range []string{
		"", ":", "::", "ed", "A", "edA", "ed:", ":A", ":ed:A", "ed::A", "ed:A:", "ed:A:B", "ed:A:1", "a:b:c:d", "ed:1:80",
		"Ed:A", "ED:A", "e.d:A", "e-d:A", "e=d:A", "e/d:A", "e+d:A", "e d:A", "@ed:A", "@a:b", "@@a:b", "a@:b", "a:@b",
		"ed:A=", "ed:AA==", "ed:A.B", "ed:A-B", "ed:A B", "ed:A@", " ed:A", "ed:A ", "ed :A", "ed: A", "ed:A\n", "\ned:A",
		"ed:A\x00", "\x00ed:A", "é:A", "ed:é", "\xff:A", "ed:\xff", "ed;A", "ed：A", "ed.A", "ed/A",
	} {
		wantNoKey(t, s)
	}
}

// places puts c first, in the middle and last, and alone.
func places(c byte) (first, middle, last, alone string) {
	one := string([]byte{c})
	return one + "bc", "a" + one + "c", "ab" + one, one
}

func TestEveryByteOfALocalName(t *testing.T) {
	for n := range 256 {
		c := byte(n)
		first, middle, last, alone := places(c)
		for _, s := range []string{first, middle, last, alone} {
			wantLocal(t, s, isLocalByte(c))
			userIf(t, isLocalByte(c), s, "x")
		}
	}
}

func TestEveryByteOfAServerName(t *testing.T) {
	for n := range 256 {
		c := byte(n)
		first, middle, last, alone := places(c)
		wantServer(t, middle, isServerByte(c))
		userIf(t, isServerByte(c), "x", middle)
		for _, s := range []string{first, last, alone} {
			wantServer(t, s, isSmallOrDigit(c))
			userIf(t, isSmallOrDigit(c), "x", s)
		}
	}
}

func TestEveryByteOfAKindAndAnId(t *testing.T) {
	for n := range 256 {
		c := byte(n)
		first, middle, last, alone := places(c)
		for _, s := range []string{first, middle, last, alone} {
			keyIf(t, isKindByte(c), s, "x")
			keyIf(t, isIdByte(c), "x", s)
		}
	}
}

// Nothing but @ may stand before the parts, and nothing but a colon between
// them.
func TestEveryByteAroundTheParts(t *testing.T) {
	for n := range 256 {
		one := string([]byte{byte(n)})
		if one != "@" {
			wantNoUser(t, one+"a:b")
		}
		if one != ":" {
			wantNoUser(t, "@a"+one+"b")
			wantNoKey(t, "a"+one+"b")
		}
		wantNoUser(t, one+"@a:b")
	}
	wantUser(t, "@a:b", "a", "b", api.OK)
	wantKey(t, "a:b", "a", "b", api.OK)
}

func TestNamesOfEveryLength(t *testing.T) {
	for n := range 3*most + 1 {
		good := n >= 1 && n <= most
		for _, one := range []string{"a", "z", "0", "9"} {
			s := strings.Repeat(one, n)
			wantLocal(t, s, good)
			wantServer(t, s, good)
			userIf(t, good, s, "b")
			userIf(t, good, "b", s)
			userIf(t, good, s, s)
			keyIf(t, good, s, "b")
			keyIf(t, good, "b", s)
			keyIf(t, good, s, s)
		}
		wantLocal(t, strings.Repeat(".", n), good)
		userIf(t, good, strings.Repeat("/", n), "b")
		keyIf(t, good, strings.Repeat("_", n), "b")
		keyIf(t, good, "b", strings.Repeat("+", n))
	}
}

func TestLongestNames(t *testing.T) {
	full, over := strings.Repeat("a", most), strings.Repeat("a", most+1)
	if len("abcdefghijklmnopqrst") != most {
		t.Fatalf("names of %d bytes", most)
	}
	wantUser(t, "@"+full+":"+full, full, full, api.OK)
	wantNoUser(t, "@"+over+":"+full)
	wantNoUser(t, "@"+full+":"+over)
	wantNoUser(t, "@"+full+":"+full+".")
	wantKey(t, full+":"+full, full, full, api.OK)
	wantNoKey(t, over+":"+full)
	wantNoKey(t, full+":"+over)
	// The last byte of a name of full length counts like any other.
	wantLocal(t, full[1:]+"A", false)
	wantLocal(t, full[1:]+"/", true)
	wantServer(t, full[1:]+"-", false)
	wantServer(t, full[1:]+".", false)
	wantServer(t, full[2:]+".a", true)
	wantNoKey(t, full[1:]+"A:"+full)
	wantKey(t, full+":"+full[1:]+"A", full, full[1:]+"A", api.OK)
	wantNoKey(t, full+":"+full[1:]+"=")
}

func TestVeryLongStrings(t *testing.T) {
	for _, one := range []string{"a", ":", "@", ".", "-", "a.", "@a:b", "a:b", "\x00", "\xff"} {
		s := strings.Repeat(one, 1<<20)
		wantLocal(t, s, false)
		wantServer(t, s, false)
		for _, u := range []string{s, "@" + s, "@a:" + s, "@" + s + ":b", "@a:b" + s} {
			wantNoUser(t, u)
		}
		for _, k := range []string{s, "a:" + s, s + ":b", "a:b:" + s} {
			wantNoKey(t, k)
		}
	}
}

// The pairs of '.' and '-', within a server name and at its ends.
func TestMarksOfAServerName(t *testing.T) {
	allowed := map[string]bool{".": true, "-": true, ".-": true, "--": true, "..": false, "-.": false}
	for marks, good := range allowed {
		for _, s := range []string{"a" + marks + "b", "0" + marks + "9", "a.b" + marks + "c-d", "a-b" + marks + "c.d"} {
			wantServer(t, s, good)
			userIf(t, good, "x", s)
		}
		for _, s := range []string{marks, marks + "a", "a" + marks, marks + "a" + marks, marks + "a.b", "a.b" + marks} {
			wantServer(t, s, false)
			userIf(t, false, "x", s)
		}
		wantLocal(t, marks, true)
		userIf(t, true, marks, "x")
	}
	for _, marks := range []string{".--", "---"} {
		wantServer(t, "a"+marks+"b", true)
	}
	for _, marks := range []string{"...", "..-", ".-.", "-..", "-.-", "--."} {
		wantServer(t, "a"+marks+"b", false)
	}
	// At each place of the longest name.
	full := strings.Repeat("a", most)
	for at := 1; at+2 < most; at++ {
		for pair, good := range allowed {
			s := full[:at] + pair + full[at+len(pair):]
			wantServer(t, s, good)
			userIf(t, good, full, s)
		}
	}
}

// wantAllLikeForms compares all four functions with the forms above.
func wantAllLikeForms(t *testing.T, s string) {
	t.Helper()
	wantLocal(t, s, localForm.MatchString(s))
	wantServer(t, s, likeServer(s))
	local, server, e := likeUser(s)
	wantUser(t, s, local, server, e)
	kind, id, e := likeKey(s)
	wantKey(t, s, kind, id, e)
}

func TestEveryShortString(t *testing.T) {
	const letters = "@:aA.-_/"
	var visit func(s string, n int)
	visit = func(s string, n int) {
		wantAllLikeForms(t, s)
		if n > 0 {
			for i := range len(letters) {
				visit(s+letters[i:i+1], n-1)
			}
		}
	}
	visit("", 5)
	visit("@a:", 5)
}

func TestStringsThatAreNearlyNames(t *testing.T) {
	const letters = "abz019.-._=/+AZ:@ \xff"
	random := rand.New(rand.NewSource(3))
	some := func(n, of int) string {
		b := make([]byte, random.Intn(n+1))
		for i := range b {
			b[i] = letters[random.Intn(of)]
		}
		return string(b)
	}
	users, keys := 0, 0
	for range 200000 {
		of := 6 + random.Intn(len(letters)-5)
		first, second := some(most+1, of), some(most+1, of)
		for _, s := range []string{first, first + ":" + second, "@" + first + ":" + second} {
			wantAllLikeForms(t, s)
			if _, _, e := User(s); e == api.OK {
				users++
			}
			if _, _, e := Key(s); e == api.OK {
				keys++
			}
		}
	}
	if users < 1000 || keys < 1000 {
		t.Errorf("only %d users and %d keys", users, keys)
	}
}

// shares reports whether part lies in the memory of whole.
func shares(part, whole string) bool {
	at := uintptr(unsafe.Pointer(unsafe.StringData(part)))
	start := uintptr(unsafe.Pointer(unsafe.StringData(whole)))
	return at >= start && at < start+uintptr(len(whole))
}

func TestResultsAreNewMemory(t *testing.T) {
	full := strings.Repeat("a", most)
	for _, s := range []string{"@" + full + ":" + full, "@abc:def.g"} {
		if local, server, _ := User(s); shares(local, s) || shares(server, s) {
			t.Errorf("User(%q) returns a part of its argument", s)
		}
	}
	for _, s := range []string{full + ":" + full, "ed25519:Ab+/"} {
		if kind, id, _ := Key(s); shares(kind, s) || shares(id, s) {
			t.Errorf("Key(%q) returns a part of its argument", s)
		}
	}
}

func FuzzNames(f *testing.F) {
	for _, s := range []string{"", "@a:b", "ed:A", "a-b.c", "a..b", "@a.b=/:x-1.y", "a:b:c", "@\xff:b"} {
		f.Add(s)
	}
	f.Fuzz(wantAllLikeForms)
}
