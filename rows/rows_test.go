package rows

import (
	"math/rand"
	"slices"
	"strconv"
	"strings"
	"testing"
	"unsafe"

	"bagnall/api"
)

const (
	ok    = api.OK
	size  = api.ErrSize
	form  = api.ErrForm
	twice = api.ErrTwice
	none  = api.ErrNone
	full  = api.ErrFull
)

// table is the rows of these words: a key and its value, and so on.
func table(words ...string) []api.Row {
	var l []api.Row
	for i := 0; i+1 < len(words); i += 2 {
		l = append(l, api.Row{Key: words[i], Value: words[i+1]})
	}
	return l
}

// numbered is the key of the i-th row of a table of many.
func numbered(i int) string { return string([]byte{'0' + byte(i/10%10), '0' + byte(i%10)}) }

// manyRows is n rows with different keys from that of the number start on.
func manyRows(start, n int) []api.Row {
	var l []api.Row
	for i := start; i < start+n; i++ {
		l = append(l, api.Row{Key: numbered(i), Value: "v" + strconv.Itoa(i)})
	}
	return l
}

func join(parts ...[]api.Row) []api.Row { return slices.Concat(parts...) }

func long(n int) string { return strings.Repeat("x", n) }

// withMarks is the list with spare capacity behind it, which has marks in it.
func withMarks(l []api.Row) (list, whole []api.Row) {
	whole = join(l, slices.Repeat(table("mark", "MARK"), 100))
	return whole[:len(l)], whole
}

// likeCheck is the second version of Check: it compares each row with all those
// ahead of it, of which the last one must be the greatest.
func likeCheck(l []api.Row) api.Errno {
	if len(l) > 40 {
		return size
	}
	for i, r := range l {
		if len(r.Key) < 1 || len(r.Key) > 20 || len(r.Value) > 20 {
			return size
		}
		if len(r.Value) == 0 {
			return form
		}
		for _, ahead := range l[:i] {
			if strings.Compare(ahead.Key, r.Key) >= 0 {
				return twice
			}
		}
	}
	return ok
}

// likeSet is the second version of Set: a map, of which the keys are sorted in
// the end.
func likeSet(l, changes []api.Row) ([]api.Row, api.Errno) {
	if e := likeCheck(l); e != ok {
		return nil, e
	}
	if len(changes) > 60 {
		return nil, size
	}
	values := map[string]string{}
	for _, r := range join(l, changes) {
		if len(r.Key) < 1 || len(r.Key) > 20 || len(r.Value) > 20 {
			return nil, size
		}
		values[r.Key] = r.Value
	}
	var keys []string
	for k, v := range values {
		if v != "" {
			keys = append(keys, k)
		}
	}
	if len(keys) > 40 {
		return nil, full
	}
	slices.Sort(keys)
	var after []api.Row
	for _, k := range keys {
		after = append(after, api.Row{Key: k, Value: values[k]})
	}
	return after, ok
}

// likeFind is the second version of Find: it looks at every row.
func likeFind(l []api.Row, key string) (string, api.Errno) {
	if e := likeCheck(l); e != ok {
		return "", e
	}
	for _, r := range l {
		if r.Key == key {
			return r.Value, ok
		}
	}
	return "", none
}

// likeBegin is the second version of Begin: it looks at every row.
func likeBegin(l []api.Row, head string) ([]api.Row, api.Errno) {
	if e := likeCheck(l); e != ok {
		return nil, e
	}
	var some []api.Row
	for _, r := range l {
		if len(r.Key) >= len(head) && r.Key[:len(head)] == head {
			some = append(some, r)
		}
	}
	return some, ok
}

// wantSame says that the whole memory of a list stays as it was.
func wantSame(t *testing.T, what string, whole, l []api.Row) {
	t.Helper()
	if _, was := withMarks(l); !slices.Equal(whole, was) {
		t.Errorf("%s: the rows became %q, they were %q", what, whole, was)
	}
}

func wantCheck(t *testing.T, l []api.Row, code api.Errno) {
	t.Helper()
	list, whole := withMarks(l)
	if e := Check(list); e != code {
		t.Errorf("Check(%q): %d, want %d", l, e, code)
	}
	wantSame(t, "Check", whole, l)
}

func wantSet(t *testing.T, l, changes, want []api.Row, code api.Errno) {
	t.Helper()
	list, whole := withMarks(l)
	acts, actsWhole := withMarks(changes)
	got, e := Set(list, acts)
	if !slices.Equal(got, want) || e != code {
		t.Errorf("Set(%q, %q): %q %d, want %q %d", l, changes, got, e, want, code)
	}
	wantSame(t, "Set", whole, l)
	wantSame(t, "Set", actsWhole, changes)
}

func wantFind(t *testing.T, l []api.Row, key, want string, code api.Errno) {
	t.Helper()
	list, whole := withMarks(l)
	if got, e := Find(list, key); got != want || e != code {
		t.Errorf("Find(%q, %q): %q %d, want %q %d", l, key, got, e, want, code)
	}
	wantSame(t, "Find", whole, l)
}

func wantBegin(t *testing.T, l []api.Row, head string, want []api.Row, code api.Errno) {
	t.Helper()
	list, whole := withMarks(l)
	if got, e := Begin(list, head); !slices.Equal(got, want) || e != code {
		t.Errorf("Begin(%q, %q): %q %d, want %q %d", l, head, got, e, want, code)
	}
	wantSame(t, "Begin", whole, l)
}

// wantTableError says that all functions have this error for the table,
// whatever else they are given.
func wantTableError(t *testing.T, l []api.Row, code api.Errno) {
	t.Helper()
	wantCheck(t, l, code)
	for _, changes := range [][]api.Row{nil, table("a", "1"), table("a", ""), table("", ""), manyRows(0, 60), manyRows(0, 61)} {
		wantSet(t, l, changes, nil, code)
	}
	keys := []string{"", "a", "b", "\xff", long(20), long(21)}
	for _, r := range l {
		keys = append(keys, r.Key)
	}
	for _, key := range keys {
		wantFind(t, l, key, "", code)
		wantBegin(t, l, key, nil, code)
	}
}

// wantTable says that all functions take the table.
func wantTable(t *testing.T, l []api.Row) {
	t.Helper()
	wantCheck(t, l, ok)
	wantSet(t, l, nil, l, ok)
	wantBegin(t, l, "", l, ok)
	for _, r := range l {
		wantFind(t, l, r.Key, r.Value, ok)
	}
}

func TestNumberOfRowsP9_1P9_2(t *testing.T) {
	wantTable(t, nil)
	wantTable(t, []api.Row{})
	for n := range api.MaxRows + 1 {
		wantTable(t, manyRows(0, n))
	}
	for _, n := range []int{api.MaxRows + 1, api.MaxRows + 2, 100} {
		wantTableError(t, manyRows(0, n), size)
	}
	if api.MaxRows != 40 || api.MaxName != 20 || api.MaxList != 60 {
		t.Errorf("the limits are %d, %d and %d", api.MaxRows, api.MaxName, api.MaxList)
	}
	wantCheck(t, make([]api.Row, 40), size)
	wantCheck(t, make([]api.Row, 1<<17), size)
}

func TestLengthsP9_1P9_2(t *testing.T) {
	for n := range 300 {
		key, value := table(long(n), "1"), table("a", long(n))
		switch {
		case n == 0:
			wantTableError(t, key, size)
			wantTableError(t, value, form)
		case n <= 20:
			wantTable(t, key)
			wantTable(t, value)
			wantTable(t, table(long(n), long(n)))
		default:
			wantTableError(t, key, size)
			wantTableError(t, value, size)
		}
	}
	for _, n := range []int{256, 257, 276, 1<<16 + 1, 1 << 20} {
		wantCheck(t, table(long(n), "1"), size)
		wantCheck(t, table("a", long(n)), size)
	}
	// Lengths are in bytes, not in characters.
	wantTable(t, table(strings.Repeat("\u00e4", 10), strings.Repeat("\u20ac", 6)))
	wantTableError(t, table(strings.Repeat("\u00e4", 11), "1"), size)
	wantTableError(t, table("a", strings.Repeat("\u20ac", 7)), size)
	wantTable(t, table(strings.Repeat("\xff", 20), strings.Repeat("\xff", 20)))
	wantTable(t, table("\x00", "\x00"))
	wantTableError(t, table(strings.Repeat("\x00", 21), "1"), size)
}

// The second of two keys is the greater one if and only if it stands behind
// the first one in this list.
func TestOrderP9_1P9_2(t *testing.T) {
	keys := []string{
		"\x00", "\x00\x00", "\x00\xff", "\x01", "0", "10", "2", "A", "Z", "a", "a\x00", "a\x00\x00", "aa", "aaa", "ab", "a\x7f", "a\x80", "a\xff", "a\xff\xff",
		"b", "z", "\x7f", "\x7f\xff", "\x80", "\x80\x00", "\xc2\x80", "\xc3\xa4", "\xe2\x82\xac", "\xef\xbf\xbd", "\xfe", "\xff", "\xff\x00", "\xff\xfe", "\xff\xff",
	}
	for i, first := range keys {
		for j, second := range keys {
			l := table(first, "1", second, "2")
			if i < j {
				wantTable(t, l)
			} else {
				wantTableError(t, l, twice)
			}
		}
	}
	var all []api.Row
	for _, key := range keys {
		all = append(all, api.Row{Key: key, Value: key})
	}
	wantTable(t, all)
	for i := range all {
		wantFind(t, all[:i], keys[i], "", none)
		wantFind(t, all[i+1:], keys[i], "", none)
		for j := range i {
			swapped := slices.Clone(all)
			swapped[i], swapped[j] = swapped[j], swapped[i]
			wantCheck(t, swapped, twice)
			equal := slices.Clone(all)
			equal[i] = equal[j]
			wantCheck(t, equal, twice)
		}
	}
}

// The errors of a row at every place of a table.
func TestErrorAtEveryPlaceP9_1(t *testing.T) {
	good := manyRows(10, 40)
	for n := 1; n <= 40; n++ {
		for at := range n {
			bad := func(key, value string, code api.Errno) {
				l := slices.Clone(good[:n])
				l[at] = api.Row{Key: key, Value: value}
				wantCheck(t, l, code)
			}
			key := good[at].Key
			bad("", "1", size)
			bad(key+long(19), "1", size)
			bad(key, long(21), size)
			bad(key, "", form)
			bad(key, "1", ok)
			bad(key+"x", "1", ok)
			if at > 0 {
				bad(good[at-1].Key, "1", twice)
				bad("0", "1", twice)
			}
			if at < n-1 {
				bad(good[at+1].Key, "1", twice)
				bad("x", "1", twice)
			}
		}
	}
}

func TestWhichErrorOfARowP9_1P9_2(t *testing.T) {
	for _, c := range []struct {
		l    []api.Row
		code api.Errno
	}{
		{table("", ""), size},
		{table(long(21), ""), size},
		{table("", long(21)), size},
		{table(long(21), long(21)), size},
		// The first row with an error, not the first kind of error.
		{table("a", "", "", "1"), form},
		{table("a", "", long(21), "1"), form},
		{table("a", "", "b", long(21)), form},
		{table("a", "", "a", ""), form},
		{table("a", "", "a", "1"), form},
		{table("", "1", "a", ""), size},
		{table("a", "1", "a", "1", "", "1"), twice},
		{table("a", "1", "a", "1", "b", ""), twice},
		{table("b", "1", "a", "1", "c", long(21)), twice},
		{table("a", "1", "b", "", "a", "1"), form},
		{table("a", "1", "b", long(21), "a", "1"), size},
		// Of one row: its lengths, its empty value, its place.
		{table("a", "1", "", ""), size},
		{table("a", "1", "", "1"), size},
		{table("b", "1", "a", ""), form},
		{table("a", "1", "a", ""), form},
		{table("x", "1", "a", long(21)), size},
		{table("y", "1", long(21), "1"), size},
		{table("y", "1", long(21), ""), size},
		// Too many rows come ahead of all.
		{join(table("a", ""), manyRows(0, 40)), size},
		{join(table("a", "1", "a", "1"), manyRows(0, 39)), size},
		{join(table("a", "1", "a", "1"), manyRows(0, 38)), twice},
		{join(table("a", ""), manyRows(0, 39)), form},
		{join(manyRows(0, 40), table("zz", "")), size},
	} {
		wantTableError(t, c.l, c.code)
	}
}

// All tables of up to three rows of few keys and values.
func TestEverySmallTableP9_1(t *testing.T) {
	var some []api.Row
	for _, key := range []string{"", "a", "ab", "b", "\x80", long(20), long(21)} {
		for _, value := range []string{"", "1", long(20), long(21)} {
			some = append(some, api.Row{Key: key, Value: value})
		}
	}
	var each func(l []api.Row, more int)
	each = func(l []api.Row, more int) {
		if got, want := Check(l), likeCheck(l); got != want {
			t.Errorf("Check(%q): %d, want %d", l, got, want)
		}
		if more == 0 {
			return
		}
		for _, r := range some {
			each(append(slices.Clone(l), r), more-1)
		}
	}
	each(nil, 3)
}

// overlap reports whether the strings share memory.
func overlap(a, b string) bool {
	if a == "" || b == "" {
		return false
	}
	atA, atB := uintptr(unsafe.Pointer(unsafe.StringData(a))), uintptr(unsafe.Pointer(unsafe.StringData(b)))
	return atA < atB+uintptr(len(b)) && atB < atA+uintptr(len(a))
}

// wantNoOverlap says that no text of a result is in the memory of a table.
func wantNoOverlap(t *testing.T, what string, texts []string, l []api.Row) {
	t.Helper()
	for _, text := range texts {
		for _, r := range l {
			if overlap(text, r.Key) || overlap(text, r.Value) {
				t.Errorf("%s: %q shares memory with the row %q", what, text, r)
			}
		}
	}
}

func textsOf(l []api.Row) []string {
	var texts []string
	for _, r := range l {
		texts = append(texts, r.Key, r.Value)
	}
	return texts
}

// spoil writes into the whole capacity of the list.
func spoil(l []api.Row) {
	l = l[:cap(l)]
	for i := range l {
		l[i] = api.Row{Key: "spoiled", Value: "SPOILED"}
	}
}

// wantNewMemory says that a result shares no memory with the lists and with a
// result of another call.
func wantNewMemory(t *testing.T, what string, call func() []api.Row, lists ...[]api.Row) {
	t.Helper()
	one, other := call(), call()
	want := slices.Clone(other)
	var was [][]api.Row
	for _, l := range lists {
		was = append(was, slices.Clone(l))
		wantNoOverlap(t, what, textsOf(one), l)
	}
	spoil(one)
	for i, l := range lists {
		if !slices.Equal(l, was[i]) {
			t.Errorf("%s: writing into the result made an argument %q, it was %q", what, l, was[i])
		}
		spoil(l)
	}
	if !slices.Equal(other, want) {
		t.Errorf("%s: writing elsewhere made the result %q, it was %q", what, other, want)
	}
}

func TestSharesNothingP9_2(t *testing.T) {
	for n := range api.MaxRows + 1 {
		for _, changes := range [][]api.Row{nil, {}, table("05", "two"), table("05", ""), table("0key", "one", "zkey", "two"), table("none", "")} {
			list, whole := withMarks(manyRows(0, n))
			acts, actsWhole := withMarks(changes)
			wantNewMemory(t, "Set", func() []api.Row {
				l, _ := Set(list, acts)
				return l
			}, whole, actsWhole)
		}
		for _, head := range []string{"", "0", "2", "39", "x"} {
			list, whole := withMarks(manyRows(0, n))
			wantNewMemory(t, "Begin", func() []api.Row {
				l, _ := Begin(list, head)
				return l
			}, whole)
		}
	}
	l := table("aa", "one", "bb", "two")
	value, _ := Find(l, "bb")
	wantNoOverlap(t, "Find", []string{value}, l)
}

func TestNothingIsKeptP9_1P9_2P9_3(t *testing.T) {
	l := table("a", "1", "b", "2")
	for range 3 {
		wantSet(t, l, table("c", "3", "a", ""), table("b", "2", "c", "3"), ok)
		wantSet(t, nil, table("d", "4"), table("d", "4"), ok)
		wantSet(t, l, nil, l, ok)
		wantSet(t, l, table("", "3"), nil, size)
		wantCheck(t, l, ok)
		wantFind(t, l, "c", "", none)
		wantFind(t, l, "a", "1", ok)
		wantBegin(t, l, "b", table("b", "2"), ok)
		wantNext(t, "a\xff", "b")
		wantNext(t, "", "")
	}
}

// randomText is up to n bytes, most of them of few.
func randomText(r *rand.Rand, n int) string {
	b := make([]byte, r.Intn(n+1))
	for i := range b {
		b[i] = "ab\x00\x7f\x80\xff"[r.Intn(6)]
		if r.Intn(20) == 0 {
			b[i] = byte(r.Intn(256))
		}
	}
	return string(b)
}

// randomChanges is n changes, most of them with valid lengths.
func randomChanges(r *rand.Rand, n int) []api.Row {
	var l []api.Row
	for range n {
		row := api.Row{Key: randomText(r, 3), Value: randomText(r, 2)}
		if row.Key == "" && r.Intn(200) > 0 {
			row.Key = "a"
		}
		if r.Intn(500) == 0 {
			row.Key = long(18 + r.Intn(5))
		}
		if r.Intn(500) == 0 {
			row.Value = long(18 + r.Intn(5))
		}
		l = append(l, row)
	}
	return l
}

// randomTable is most often a valid table.
func randomTable(r *rand.Rand) []api.Row {
	l, e := likeSet(nil, randomChanges(r, r.Intn(60)))
	if e != ok {
		return randomChanges(r, r.Intn(4))
	}
	switch r.Intn(12) {
	case 0:
		return join(l, randomChanges(r, 1))
	case 1:
		return join(randomChanges(r, 1), l)
	}
	return l
}

// wantLike says that all functions return what their second versions do.
func wantLike(t *testing.T, l, changes []api.Row, key string) {
	t.Helper()
	wantCheck(t, l, likeCheck(l))
	after, e := likeSet(l, changes)
	wantSet(t, l, changes, after, e)
	value, e := likeFind(l, key)
	wantFind(t, l, key, value, e)
	some, e := likeBegin(l, key)
	wantBegin(t, l, key, some, e)
}

func TestRandomP9_1P9_2(t *testing.T) {
	r := rand.New(rand.NewSource(9))
	count := map[api.Errno]int{}
	for range 20000 {
		l, changes := randomTable(r), randomChanges(r, r.Intn(64))
		_, e := likeSet(l, changes)
		count[e]++
		key := randomText(r, 4)
		if len(l) > 0 && r.Intn(2) == 0 {
			key = l[r.Intn(len(l))].Key
		}
		wantLike(t, l, changes, key)
		if t.Failed() {
			return
		}
	}
	for _, e := range []api.Errno{ok, size, form, twice, full} {
		if count[e] < 100 {
			t.Errorf("only %d calls had the error %d", count[e], e)
		}
	}
}

// rowsOf reads rows from any bytes: two of them say how long the key and the
// value are.
func rowsOf(b []byte) []api.Row {
	var l []api.Row
	part := func() string {
		if len(b) == 0 {
			return ""
		}
		n := min(int(b[0]%24), len(b)-1)
		text := string(b[1 : 1+n])
		b = b[1+n:]
		return text
	}
	for len(b) > 0 {
		key := part()
		l = append(l, api.Row{Key: key, Value: part()})
	}
	return l
}

func FuzzRows(f *testing.F) {
	f.Add([]byte("\x01a\x011\x01b\x012"), []byte("\x01b\x00\x02aa\x014"), "b")
	f.Add([]byte("\x01a\x011\x01a\x012"), []byte("\x00\x01x"), "")
	f.Fuzz(func(t *testing.T, rows, changes []byte, key string) {
		wantLike(t, rowsOf(rows), rowsOf(changes), key)
		if sorted, e := likeSet(nil, rowsOf(rows)); e == ok {
			wantLike(t, sorted, rowsOf(changes), key)
		}
	})
}
