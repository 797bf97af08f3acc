package rows

import (
	"strings"
	"testing"

	"bagnall/api"
)

func TestExamplesP9_2(t *testing.T) {
	l := table("a", "1", "b", "2", "ba", "3")
	wantFind(t, l, "b", "2", ok)
	wantFind(t, l, "c", "", none)
	wantFind(t, nil, "c", "", none)
	wantBegin(t, l, "b", table("b", "2", "ba", "3"), ok)
	wantBegin(t, l, "", l, ok)
}

// Each row of tables of every length, and the keys around it.
func TestFindAtEveryPlaceP9_2(t *testing.T) {
	for n := range api.MaxRows + 1 {
		l := manyRows(0, n)
		for i, r := range l {
			wantFind(t, l, r.Key, r.Value, ok)
			wantFind(t, l, r.Key+"\x00", "", none)
			wantFind(t, l, r.Key+"\xff", "", none)
			wantFind(t, l, r.Key[:1], "", none)
			wantFind(t, join(l[:i], l[i+1:]), r.Key, "", none)
		}
		for _, key := range []string{"", "\x00", "/", "a", "\xff", numbered(n), long(20), long(21), long(1000)} {
			wantFind(t, l, key, "", none)
		}
	}
}

func TestFindByHandP9_2(t *testing.T) {
	l := table("a", "v1", "ab", "v2", "abc", "v3", "\x7f", "v4", "\x80", "v5", "\xc3\xa4", "v6", "\xff", "v7", "\xff\xff", "v8")
	for _, r := range l {
		wantFind(t, l, r.Key, r.Value, ok)
	}
	for _, key := range []string{"", "A", "aa", "abb", "abcd", "b", "\xc3", "\x81", "\xef\xbf\xbd", "\xff\xfe", "\xff\xff\xff", "\xff\x00", "v1"} {
		wantFind(t, l, key, "", none)
	}
	one := table("m", "1")
	wantFind(t, one, "m", "1", ok)
	for _, key := range []string{"", "l", "l\xff", "m\x00", "n", "M"} {
		wantFind(t, one, key, "", none)
	}
	wantFind(t, table(long(20), long(20)), long(20), long(20), ok)
	wantFind(t, table(long(20), "1"), long(19), "", none)
	wantFind(t, table(long(20), "1"), long(21), "", none)
	wantFind(t, table("a", "\x00"), "a", "\x00", ok)
}

func TestBeginByHandP9_2(t *testing.T) {
	l := table("a", "1", "ab", "2", "abc", "3", "abd", "4", "b", "5", "\x7f", "6", "\xfe\xff", "7", "\xff", "8", "\xff\xff", "9")
	for _, c := range []struct {
		head     string
		from, to int
	}{
		{"", 0, 9},
		{"a", 0, 4},
		{"ab", 1, 4},
		{"abc", 2, 3},
		{"abd", 3, 4},
		{"b", 4, 5},
		{"\x7f", 5, 6},
		{"\xfe", 6, 7},
		{"\xfe\xff", 6, 7},
		{"\xff", 7, 9},
		{"\xff\xff", 8, 9},
		{"\x00", 0, 0},
		{"A", 0, 0},
		{"aa", 0, 0},
		{"ac", 0, 0},
		{"abb", 0, 0},
		{"abcd", 0, 0},
		{"abcx", 0, 0},
		{"abe", 0, 0},
		{"ba", 0, 0},
		{"\x80", 0, 0},
		{"\xfe\xfe", 0, 0},
		{"\xff\x00", 0, 0},
		{"\xff\xff\xff", 0, 0},
		{long(20), 0, 0},
		{"a" + long(1000), 0, 0},
	} {
		wantBegin(t, l, c.head, l[c.from:c.to], ok)
	}
	for _, head := range []string{"", "a", "\xff", long(21)} {
		wantBegin(t, nil, head, nil, ok)
		wantBegin(t, []api.Row{}, head, nil, ok)
	}
	for _, r := range l {
		wantBegin(t, []api.Row{r}, "", []api.Row{r}, ok)
		wantBegin(t, []api.Row{r}, r.Key, []api.Row{r}, ok)
		wantBegin(t, []api.Row{r}, r.Key+"\x00", nil, ok)
	}
}

// Rows from i to k start with the head, in tables of every length.
func TestBeginAtEveryPlaceP9_2(t *testing.T) {
	for n := range api.MaxRows + 1 {
		for i := range n + 1 {
			for k := i; k <= n; k++ {
				l := append(append(keyed("a", i), keyed("hi", k-i)...), keyed("x", n-k)...)
				wantBegin(t, l, "hi", l[i:k], ok)
			}
		}
	}
}

// keyed is n rows whose keys start with head.
func keyed(head string, n int) []api.Row {
	var l []api.Row
	for i := range n {
		l = append(l, api.Row{Key: head + numbered(i), Value: numbered(i)})
	}
	return l
}

func wantNext(t *testing.T, head, want string) {
	t.Helper()
	if got := Next(head); got != want {
		t.Errorf("Next(%q): %q, want %q", head, got, want)
	}
}

func TestNextByHandP9_3(t *testing.T) {
	wantNext(t, "a", "b")
	wantNext(t, "ab", "ac")
	wantNext(t, "", "")
	wantNext(t, "\xff", "")
	wantNext(t, "\xff\xff", "")
	wantNext(t, "a\xff", "b")
	wantNext(t, "a\xff\xff\xff", "b")
	wantNext(t, "\xffa", "\xffb")
	wantNext(t, "\xffa\xff", "\xffb")
	wantNext(t, "\xff\xff\x00", "\xff\xff\x01")
	wantNext(t, "a\xffb", "a\xffc")
	wantNext(t, "a\xfe", "a\xff")
	wantNext(t, "a\xfe\xff", "a\xff")
	wantNext(t, "\xfe", "\xff")
	wantNext(t, "\xfe\xff", "\xff")
	wantNext(t, "\x00", "\x01")
	wantNext(t, "\x00\x00", "\x00\x01")
	wantNext(t, "\x00\xff", "\x01")
	// The bytes of characters are bytes like others.
	wantNext(t, "\u00e4", "\xc3\xa5")
	wantNext(t, "\u00ff", "\xc3\xc0")
	wantNext(t, "\ufffd", "\xef\xbf\xbe")
	wantNext(t, "\ufffd\xff", "\xef\xbf\xbe")
	wantNext(t, "\xef\xbf", "\xef\xc0")
}

func TestNextOfEveryByteP9_3(t *testing.T) {
	for c := range 255 {
		next := string([]byte{byte(c + 1)})
		for n := range 4 {
			behind := strings.Repeat("\xff", n)
			for _, ahead := range []string{"", "a", "\x00", "\x80", "\xff", "\xff\xff", "\u20ac"} {
				wantNext(t, ahead+string([]byte{byte(c)})+behind, ahead+next)
			}
		}
	}
}

func TestNextOfEveryLengthP9_3(t *testing.T) {
	for n := range 100 {
		wantNext(t, strings.Repeat("\xff", n), "")
		wantNext(t, long(n)+"a", long(n)+"b")
		wantNext(t, "a"+strings.Repeat("\xff", n), "b")
		wantNext(t, long(n)+"a"+strings.Repeat("\xff", n), long(n)+"b")
	}
	wantNext(t, strings.Repeat("\xff", 1<<20), "")
	wantNext(t, strings.Repeat("a", 1<<20)+strings.Repeat("\xff", 1<<20), strings.Repeat("a", 1<<20-1)+"b")
}

// shortTexts is all texts of up to n of these bytes.
func shortTexts(n int) []string {
	texts := []string{""}
	for from, more := 0, n; more > 0; more-- {
		to := len(texts)
		for _, text := range texts[from:to] {
			for _, c := range []byte{0, 1, 'a', 'b', 127, 128, 254, 255} {
				texts = append(texts, text+string([]byte{c}))
			}
		}
		from = to
	}
	return texts
}

// isAbove reports whether s is greater than all strings that start with head.
func isAbove(s, head string) bool {
	return s > head && !strings.HasPrefix(s, head)
}

// Next is greater than all strings that start with the head, and no greater
// than any other such string; it is empty only if there is none.
func TestNextIsSmallestP9_3(t *testing.T) {
	texts := shortTexts(3)
	for _, head := range texts {
		next := Next(head)
		if next != "" && !isAbove(next, head) {
			t.Fatalf("Next(%q): %q", head, next)
		}
		for _, s := range texts {
			if isAbove(s, head) && (next == "" || s < next) {
				t.Fatalf("Next(%q): %q, but there is %q", head, next, s)
			}
		}
	}
}

// Begin returns the rows from the head on, but not from Next of it on.
func TestNextAndBeginP9_2P9_3(t *testing.T) {
	l, _ := likeSet(nil, keysOf("a", "a\x00", "a\xfe", "a\xff", "a\xff\x00", "a\xff\xff", "b", "\x7f", "\x80", "\xfe", "\xfe\xff", "\xff", "\xff\xfe", "\xff\xff"))
	for _, head := range shortTexts(3) {
		var want []api.Row
		next := Next(head)
		for _, r := range l {
			if r.Key >= head && (next == "" || r.Key < next) {
				want = append(want, r)
			}
		}
		wantBegin(t, l, head, want, ok)
	}
}

func keysOf(keys ...string) []api.Row {
	var l []api.Row
	for _, key := range keys {
		l = append(l, api.Row{Key: key, Value: "1"})
	}
	return l
}

func FuzzNext(f *testing.F) {
	f.Add("a\xff", "b")
	f.Add("", "\xff")
	f.Fuzz(func(t *testing.T, head, s string) {
		next := Next(head)
		only255 := strings.Count(head, "\xff") == len(head)
		if only255 != (next == "") || !only255 && !isAbove(next, head) {
			t.Errorf("Next(%q): %q", head, next)
		}
		if isAbove(s, head) && (only255 || s < next) {
			t.Errorf("Next(%q): %q, but there is %q", head, next, s)
		}
	})
}
