package store

import (
	"math"
	"math/rand"
	"slices"
	"strconv"
	"testing"

	"bagnall/api"
)

// filler is a commit of one change whose batch has n bytes, from 6 to 45 (5
// more than its key and value). Its key is not numbered.
func filler(n int) api.Act {
	key := max(1, n-5-20)
	return commit(api.Row{Key: long(key), Value: long(n - 5 - key)})
}

// fillTo is commits that make a file of n bytes, which is at least 45.
func fillTo(n int) []api.Act {
	var l []api.Act
	for ; n > 90; n -= 45 {
		l = append(l, filler(45))
	}
	return append(l, filler(n-n/2), filler(n/2))
}

func oks(n int) []api.Told { return make([]api.Told, n) }

func TestExamplesP10_2(t *testing.T) {
	ab := table("a", "1", "b", "2")
	l := []api.Act{commit(ab...), crash(0, table("a", "", "c", "3")...), begin(""), crash(999, table("a", "", "c", "3")...), begin("")}
	wantThen(t, l, []api.Told{told(ok), told(ok), told(ok, ab...), told(ok), told(ok, table("b", "2", "c", "3")...)},
		table("b", "2", "c", "3"), fileOf(ab, table("a", "", "c", "3")))
}

func TestNoActsP10_2(t *testing.T) {
	wantPlay(t, nil, nil, nil, ok)
	wantPlay(t, []api.Act{}, nil, nil, ok)
	wantThen(t, nil, nil, nil, nil)
}

// Fields that an act does not use are ignored, also if they would be wrong.
func TestUnusedFieldsP10_2(t *testing.T) {
	bad := table("", "", long(21), long(21))
	l := []api.Act{
		{Kind: api.Commit, Rows: table("a", "1"), Key: "b", N: -1},
		{Kind: api.Get, Key: "a", Rows: bad, N: -1},
		{Kind: api.Range, Key: "a", Rows: bad, N: -1},
		{Kind: api.Pack, Key: "b", Rows: bad, N: -1},
		{Kind: api.Crash, Rows: table("b", "2"), Key: long(21), N: 7},
	}
	wantThen(t, l, []api.Told{told(ok), told(ok, table("a", "1")...), told(ok, table("a", "1")...), told(ok), told(ok)},
		table("a", "1", "b", "2"), fileOf(table("a", "1"), table("b", "2")))
}

func TestUnknownKindsP10_2(t *testing.T) {
	for _, k := range []int{0, -1, 6, 7, 256, 257, 258, 1<<32 + 1, math.MaxInt, math.MinInt} {
		l := []api.Act{commit(table("a", "1")...), {Kind: k}, {Kind: k, Rows: table("b", "2"), Key: "a", N: -1}, {Kind: k, Rows: manyRows(0, 61)}, get("a")}
		wantThen(t, l, []api.Told{told(ok), told(kind), told(kind), told(kind), told(ok, table("a", "1")...)}, table("a", "1"), fileOf(table("a", "1")))
	}
}

func TestNumberOfActsP10_2(t *testing.T) {
	for _, a := range []struct {
		act  api.Act
		want api.Told
		left []byte
	}{
		{begin(""), told(ok), nil}, {packed(), told(ok), nil}, {get("a"), told(none), nil}, {commit(), told(size), nil}, {api.Act{}, told(kind), nil}, {crash(-1), told(rang), nil},
		{crash(0, table("a", "1")...), told(ok), nil}, {crash(1, table("a", "1")...), told(ok), nil},
		{commit(table("a", "1")...), told(ok), fileOf(table("a", "1"))}, {crash(9, table("a", "1")...), told(ok), fileOf(table("a", "1"))},
	} {
		for _, n := range []int{1, 2, 49, 50, 51, 98, 99, 100} {
			wantPlay(t, slices.Repeat([]api.Act{a.act}, n), slices.Repeat([]api.Told{a.want}, n), slices.Repeat(a.left, n), ok)
		}
		for _, n := range []int{101, 102, 200, 256, 1 << 12} {
			wantPlay(t, slices.Repeat([]api.Act{a.act}, n), nil, nil, size)
		}
	}
	// The last act is made, too.
	acts := slices.Repeat([]api.Act{commit(table("a", "1")...)}, 99)
	wantThen(t, acts, oks(99), table("a", "1"), slices.Repeat(fileOf(table("a", "1")), 99))
	wantPlay(t, append(acts, packed()), oks(100), fileOf(table("a", "1")), ok)
	wantPlay(t, append(acts, packed(), packed()), nil, nil, size)
}

func TestCommitP10_2(t *testing.T) {
	for _, c := range []struct {
		batches [][]api.Row
		want    []api.Row
	}{
		{[][]api.Row{table("b", "1", "a", "2")}, table("a", "2", "b", "1")},
		{[][]api.Row{table("a", "1", "a", "2")}, table("a", "2")},
		{[][]api.Row{table("a", "1", "a", "")}, nil},
		{[][]api.Row{table("a", "")}, nil},
		{[][]api.Row{table("a", "1"), table("b", "2"), table("a", "")}, table("b", "2")},
		{[][]api.Row{table("a", "1"), table("a", "1")}, table("a", "1")},
		{[][]api.Row{table("a", "1"), table("x", "")}, table("a", "1")},
		{[][]api.Row{table(long(20), long(20)), table(long(20), "y")}, table(long(20), "y")},
		{[][]api.Row{table("\xff", "\x00", "\x00\xff", "\xff")}, table("\x00\xff", "\xff", "\xff", "\x00")},
	} {
		var l []api.Act
		for _, changes := range c.batches {
			l = append(l, commit(changes...))
		}
		wantThen(t, l, oks(len(l)), c.want, fileOf(c.batches...))
	}
}

// wantRefused says that neither a commit nor a crash of the changes has an
// effect, behind some acts that have none of these errors.
func wantRefused(t *testing.T, ahead []api.Act, changes []api.Row, code api.Errno) {
	t.Helper()
	answers, left, _ := likePlay(ahead)
	table, _, _ := likeRecover(left)
	acts := []api.Act{commit(changes...), crash(0, changes...), crash(5, changes...), crash(math.MaxInt, changes...), crash(-1, changes...), crash(math.MinInt, changes...)}
	codes := []api.Told{told(code), told(code), told(code), told(code), told(rang), told(rang)}
	for i := range acts {
		wantThen(t, slices.Concat(ahead, acts[i:i+1]), slices.Concat(answers, codes[i:i+1]), table, left)
	}
	wantThen(t, slices.Concat(ahead, acts), slices.Concat(answers, codes), table, left)
}

func TestNumberOfChangesP10_2(t *testing.T) {
	some := []api.Act{commit(table("a", "1")...)}
	wantRefused(t, some, nil, size)
	wantRefused(t, some, []api.Row{}, size)
	wantRefused(t, nil, nil, size)
	for n := 1; n <= 60; n++ {
		changes := slices.Repeat(table("a", "2"), n)
		wantThen(t, []api.Act{some[0], commit(changes...)}, oks(2), table("a", "2"), fileOf(table("a", "1"), changes))
		wantThen(t, []api.Act{some[0], crash(7*n, changes...)}, oks(2), table("a", "2"), fileOf(table("a", "1"), changes))
		wantThen(t, []api.Act{some[0], crash(7*n-1, changes...)}, oks(2), table("a", "1"), fileOf(table("a", "1")))
		away := removals(changes)
		wantThen(t, []api.Act{some[0], commit(away...)}, oks(2), nil, fileOf(table("a", "1"), away))
	}
	for _, n := range []int{61, 62, 100, 256, 257, 1 << 12} {
		wantRefused(t, some, slices.Repeat(table("a", "2"), n), size)
		wantRefused(t, some, slices.Repeat(table("a", ""), n), size)
		wantRefused(t, nil, make([]api.Row, n), size)
	}
}

func TestLengthsP10_2(t *testing.T) {
	some := []api.Act{commit(table("a", "1")...)}
	for _, n := range []int{1, 2, 19, 20} {
		changes := table("b"+long(n-1), long(n))
		wantThen(t, []api.Act{some[0], commit(changes...)}, oks(2), join(table("a", "1"), changes), fileOf(table("a", "1"), changes))
	}
	for _, bad := range [][]api.Row{table("", "1"), table("", ""), table(long(21), "1"), table(long(21), ""), table("a", long(21)), table("b", long(21)), table(long(256), "1"), table("a", long(257)), table(long(300), long(300))} {
		wantRefused(t, some, bad, size)
		wantRefused(t, some, join(table("a", "2"), bad), size)
		wantRefused(t, some, join(bad, table("a", "2")), size)
		wantRefused(t, some, join(table("a", "2"), bad, table("a", "3", "b", "4")), size)
	}
}

func TestTableFullP10_2(t *testing.T) {
	for n := range 40 {
		var ahead []api.Act
		if n > 0 {
			ahead = []api.Act{commit(manyRows(0, n)...)}
		}
		changes := manyRows(n, 40-n)
		wantThen(t, append(ahead, commit(changes...)), oks(len(ahead)+1), manyRows(0, 40), fileOf(manyRows(0, 40-len(changes)), changes))
		wantRefused(t, ahead, manyRows(n, 41-n), full)
	}
	whole := []api.Act{commit(manyRows(0, 40)...)}
	wantRefused(t, whole, manyRows(40, 1), full)
	wantRefused(t, whole, table("\x00", "1"), full)
	wantRefused(t, whole, join(removals(manyRows(0, 1)), manyRows(0, 1), manyRows(40, 1)), full)
	// Only the table after all changes must have room.
	for _, changes := range [][]api.Row{join(manyRows(40, 1), removals(manyRows(0, 1))), join(manyRows(40, 20), removals(manyRows(0, 20)))} {
		after := manyRows(len(changes)/2, 40)
		wantThen(t, []api.Act{whole[0], commit(changes...)}, oks(2), after, fileOf(manyRows(0, 40), changes))
		wantThen(t, []api.Act{whole[0], crash(9999, changes...)}, oks(2), after, fileOf(manyRows(0, 40), changes))
		wantThen(t, []api.Act{whole[0], crash(0, changes...)}, oks(2), manyRows(0, 40), fileOf(manyRows(0, 40)))
	}
	// A row that has gone makes room.
	wantThen(t, []api.Act{whole[0], commit(removals(manyRows(5, 1))...), commit(manyRows(40, 1)...)}, oks(3),
		join(manyRows(0, 5), manyRows(6, 35)), fileOf(manyRows(0, 40), removals(manyRows(5, 1)), manyRows(40, 1)))
	// Too many changes come ahead of too many rows.
	wantRefused(t, whole, manyRows(39, 61), size)
	wantRefused(t, whole, join(manyRows(40, 10), table("", "1")), size)
}

// One byte more than the file has room for.
func TestFileFullP10_2(t *testing.T) {
	for _, bytes := range []int{1200, 1199, 1198, 1195, 1194, 1193, 1180, 1160, 1156, 1155} {
		ahead := fillTo(bytes)
		answers, left, _ := likePlay(ahead)
		if len(left) != bytes || slices.ContainsFunc(answers, func(a api.Told) bool { return a.Code != ok }) {
			t.Fatalf("the file has %d bytes, not %d: %v", len(left), bytes, answers)
		}
		for n := 6; n <= 45; n++ {
			last := filler(n)
			if bytes+n <= 1200 {
				wantPlayLike(t, append(ahead, last))
				wantPlay(t, append(ahead, last), oks(len(ahead)+1), append(slices.Clone(left), fileOf(last.Rows)...), ok)
			} else {
				wantRefused(t, ahead, last.Rows, full)
			}
			wantPlayLike(t, append(ahead, crash(n-1, last.Rows...), get(last.Rows[0].Key), filler(6)))
			wantPlayLike(t, append(ahead, crash(n, last.Rows...), get(last.Rows[0].Key), filler(6)))
		}
	}
	// The first batch is too long, too.
	var wide []api.Row
	for i := range 26 {
		wide = append(wide, api.Row{Key: long(18) + numbered(i), Value: long(20)})
	}
	wide = append(wide, api.Row{Key: "y", Value: long(20)}) // 26 times 45 bytes, and 26: 1196
	wantThen(t, []api.Act{commit(wide...)}, oks(1), wide, fileOf(wide))
	wide[26] = api.Row{Key: "yyyyy", Value: long(20)} // 1200
	wantThen(t, []api.Act{commit(wide...)}, oks(1), wide, fileOf(wide))
	wide[26] = api.Row{Key: "yyyyyy", Value: long(20)} // 1201
	wantRefused(t, nil, wide, full)
	wantRefused(t, nil, slices.Repeat(wide[:1], 60), full)
	wantRefused(t, nil, join(wide, wide, table("", "")), size)
}

// A full file gets room by Pack.
func TestPackMakesRoomP10_2(t *testing.T) {
	ahead := fillTo(1200)
	l := append(ahead, filler(6), packed(), filler(45), begin(""))
	answers, _, _ := likePlay(l)
	wantPlayLike(t, l)
	if answers[len(ahead)].Code != full || answers[len(ahead)+2].Code != ok {
		t.Errorf("%v", answers)
	}
}

func TestGetAndRangeP10_2(t *testing.T) {
	l := table("a", "1", "ab", "2", "abc", "3", "b", "4", "b\xff", "5", "c\x00", "6", "\xff", "7")
	ahead := commit(l...)
	heads := []string{"", "a", "ab", "abc", "abcd", "A", "aa", "b", "b\xff", "b\xff\xff", "b\xfe", "c", "c\x00", "c\x00\x00", "d", "\xff", "\xff\xff", "\x00", long(20), long(21), "a" + long(300)}
	for _, key := range heads {
		value, code := []api.Row(nil), none
		var some []api.Row
		for _, r := range l {
			if r.Key == key {
				value, code = []api.Row{r}, ok
			}
			if len(r.Key) >= len(key) && r.Key[:len(key)] == key {
				some = append(some, r)
			}
		}
		wantThen(t, []api.Act{ahead, get(key), begin(key), get(key)}, []api.Told{told(ok), told(code, value...), told(ok, some...), told(code, value...)}, l, fileOf(l))
		wantThen(t, []api.Act{get(key), begin(key), commit(table("zz", "1")...)}, []api.Told{told(none), told(ok), told(ok)}, table("zz", "1"), fileOf(table("zz", "1")))
	}
	whole := manyRows(0, 40)
	for i, r := range whole {
		acts := []api.Act{commit(whole...), get(r.Key), begin(r.Key), begin(r.Key[:1]), get(r.Key[:1]), commit(removals(whole[i : i+1])...), get(r.Key), begin(r.Key)}
		ten := i / 10 * 10
		wantPlay(t, acts, []api.Told{told(ok), told(ok, r), told(ok, r), told(ok, whole[ten:ten+10]...), told(none), told(ok), told(none), told(ok)}, fileOf(whole, removals(whole[i:i+1])), ok)
	}
}

func TestPackP10_2(t *testing.T) {
	wantThen(t, []api.Act{packed()}, oks(1), nil, nil)
	wantThen(t, []api.Act{packed(), packed()}, oks(2), nil, nil)
	a, gone := table("a", "1"), table("a", "")
	wantThen(t, []api.Act{commit(a...), commit(gone...), packed()}, oks(3), nil, nil)
	wantThen(t, []api.Act{commit(gone...), packed(), commit(a...)}, oks(3), a, fileOf(a))
	wantThen(t, []api.Act{commit(table("b", "2")...), commit(a...), packed()}, oks(3), table("a", "1", "b", "2"), fileOf(table("a", "1", "b", "2")))
	wantThen(t, []api.Act{commit(table("b", "2")...), commit(a...), packed(), packed()}, oks(4), table("a", "1", "b", "2"), fileOf(table("a", "1", "b", "2")))
	wantThen(t, []api.Act{commit(table("b", "2", "a", "1")...), packed(), commit(table("b", "")...)}, oks(3), a, fileOf(table("a", "1", "b", "2"), table("b", "")))
	for n := 1; n <= 40; n++ {
		l := manyRows(0, n)
		back := slices.Clone(l)
		slices.Reverse(back)
		wantThen(t, []api.Act{commit(back...), packed()}, oks(2), l, fileOf(l))
		wantThen(t, []api.Act{commit(back...), packed(), packed()}, oks(3), l, fileOf(l))
	}
	// A batch that the power failure cut off does not come back.
	wantThen(t, []api.Act{commit(a...), crash(6, table("b", "2")...), packed()}, oks(3), a, fileOf(a))
	wantThen(t, []api.Act{commit(a...), packed(), crash(6, table("b", "2")...)}, oks(3), a, fileOf(a))
	wantThen(t, []api.Act{commit(a...), crash(7, table("b", "2")...), packed()}, oks(3), table("a", "1", "b", "2"), fileOf(table("a", "1", "b", "2")))
}

// The power fails behind every byte of a batch of one change, of two and of
// many; what follows is as if the whole batch had been committed, or nothing.
func TestCrashP10_2(t *testing.T) {
	first := table("a", "1", "b", "2")
	for _, changes := range [][]api.Row{table("a", "3"), table("a", ""), table("c", "3"), table("a", "", "c", "3"), table("x", ""), manyRows(0, 38), table("c", "3", "c", "", "b", "4")} {
		n := len(fileOf(changes))
		for _, follow := range []api.Act{packed(), commit(table("d", "4")...), crash(3, table("d", "4")...), crash(7, table("d", "4")...), get("a"), begin("")} {
			whole := []api.Act{commit(first...), commit(changes...), follow}
			nothing := []api.Act{commit(first...), get("a"), follow}
			wholeTold, wholeLeft, _ := likePlay(whole)
			noneTold, noneLeft, _ := likePlay(nothing)
			for cut := range n + 3 {
				acts := []api.Act{commit(first...), crash(cut, changes...), follow}
				if cut < n {
					wantPlay(t, acts, []api.Told{told(ok), told(ok), noneTold[2]}, noneLeft, ok)
				} else {
					wantPlay(t, acts, wholeTold, wholeLeft, ok)
				}
			}
			for _, cut := range []int{n + 255, n + 256, 1200, 1 << 32, math.MaxInt - 1, math.MaxInt} {
				wantPlay(t, []api.Act{commit(first...), crash(cut, changes...), follow}, wholeTold, wholeLeft, ok)
			}
			for _, cut := range []int{-1, -2, -n, math.MinInt} {
				wantPlay(t, []api.Act{commit(first...), crash(cut, changes...), follow}, []api.Told{told(ok), told(rang), noneTold[2]}, noneLeft, ok)
			}
		}
	}
	// On an empty file, and several in a row.
	a := table("a", "1")
	for cut := range 7 {
		wantThen(t, []api.Act{crash(cut, a...)}, oks(1), nil, nil)
		wantThen(t, []api.Act{crash(cut, a...), crash(cut, a...), commit(a...), crash(cut, table("b", "2")...)}, oks(4), a, fileOf(a))
	}
	wantThen(t, []api.Act{crash(7, a...)}, oks(1), a, fileOf(a))
	wantThen(t, []api.Act{crash(7, a...), crash(8, a...), crash(9, table("a", "2")...)}, oks(3), table("a", "2"), fileOf(a, a, table("a", "2")))
	// What was cut off takes no room.
	l := []api.Act{}
	for range 50 {
		l = append(l, crash(40, api.Row{Key: long(20), Value: long(20)}))
	}
	wantThen(t, l, oks(50), nil, nil)
}

// An act that has an error changes neither a later answer nor the file.
func TestErrorsHaveNoEffectP10_2(t *testing.T) {
	r := rand.New(rand.NewSource(2))
	for range 3000 {
		l := randomActs(r, 30)
		answers, left, e := Play(l)
		var good []api.Act
		var goodAnswers []api.Told
		for i, a := range l {
			if answers[i].Code == ok {
				good, goodAnswers = append(good, l[i]), append(goodAnswers, answers[i])
			} else if len(answers[i].Rows) > 0 {
				t.Errorf("%v: %v has rows beside an error", a, answers[i])
			}
		}
		wantPlay(t, good, goodAnswers, left, e)
	}
}

func randomActs(r *rand.Rand, most int) []api.Act {
	var l []api.Act
	wide := r.Intn(2) == 0
	for range r.Intn(most + 1) {
		a := api.Act{Kind: 1 + r.Intn(5), N: r.Intn(40) - 2, Key: randomChange(r, wide).Key}
		if r.Intn(40) == 0 {
			a.Kind = r.Intn(12) - 4
		}
		if a.Kind == api.Pack && r.Intn(3) > 0 {
			a.Kind = api.Commit
		}
		if r.Intn(3) == 0 {
			a.Key = a.Key[:r.Intn(2)]
		}
		for range r.Intn(1 + r.Intn(20)) {
			a.Rows = append(a.Rows, randomChange(r, wide))
		}
		if len(a.Rows) > 0 && r.Intn(30) == 0 {
			a.Rows[r.Intn(len(a.Rows))] = []api.Row{{}, {Key: long(21)}, {Key: "a", Value: long(21)}, {Value: "1"}}[r.Intn(4)]
		}
		if r.Intn(4) == 0 {
			a.N = r.Intn(1 + len(fileOf(a.Rows)))
		}
		l = append(l, a)
	}
	return l
}

func TestRandomActsP10_2(t *testing.T) {
	r := rand.New(rand.NewSource(3))
	for range 6000 {
		wantPlayLike(t, randomActs(r, 20))
	}
	for range 600 {
		wantPlayLike(t, randomActs(r, 101))
	}
}

// All sequences of a few acts.
func TestAllShortSequencesP10_2(t *testing.T) {
	choices := []api.Act{
		commit(table("a", "1")...), commit(table("a", "")...), commit(table("b", "2", "a", "3")...), commit(), get("a"), begin(""), begin("b"), packed(),
		crash(0, table("a", "4")...), crash(6, table("c", "4")...), crash(7, table("c", "4")...), crash(13, table("a", "", "c", "5")...), crash(12, table("a", "", "c", "5")...), crash(-1, table("a", "6")...), {Kind: 6},
	}
	var grow func(l []api.Act, n int)
	grow = func(l []api.Act, n int) {
		wantPlayLike(t, l)
		if n == 0 {
			return
		}
		for _, a := range choices {
			grow(append(slices.Clone(l), a), n-1)
		}
	}
	grow(nil, 3)
}

// fuzzedActs reads acts from bytes: of each a kind, a number, and the number of
// its changes, of which each has a key and the length of a value.
func fuzzedActs(b []byte) []api.Act {
	var l []api.Act
	next := func() int {
		if len(b) == 0 {
			return 0
		}
		n := int(b[0])
		b = b[1:]
		return n
	}
	for len(b) > 0 {
		a := api.Act{Kind: next() % 7, N: next() - 3, Key: strconv.Itoa(next() % 64)}
		for range next() % 64 {
			n := next()
			a.Rows = append(a.Rows, api.Row{Key: strconv.Itoa(n % 64), Value: long(n / 64 * (next() % 8))})
		}
		l = append(l, a)
	}
	return l
}

func FuzzPlayP10_2(f *testing.F) {
	f.Add([]byte{1, 0, 0, 2, 65, 1, 66, 1, 5, 8, 0, 1, 67, 1, 3, 0, 6, 0, 4, 0, 0, 0})
	f.Fuzz(func(t *testing.T, b []byte) { wantPlayLike(t, fuzzedActs(b)) })
}
