package store

import (
	"bytes"
	"slices"
	"strconv"
	"strings"
	"testing"
	"unsafe"

	"bagnall/api"
)

const (
	ok   = api.OK
	size = api.ErrSize
	rang = api.ErrRange
	kind = api.ErrKind
	form = api.ErrForm
	none = api.ErrNone
	full = api.ErrFull
)

// table is the rows of these words: a key and its value, and so on.
func table(words ...string) []api.Row {
	var l []api.Row
	for i := 0; i+1 < len(words); i += 2 {
		l = append(l, api.Row{Key: words[i], Value: words[i+1]})
	}
	return l
}

func numbered(i int) string { return strconv.Itoa(100 + i)[1:] }

// manyRows is n rows with different keys of two bytes, from that of the number
// start on, and values of one byte.
func manyRows(start, n int) []api.Row {
	var l []api.Row
	for i := start; i < start+n; i++ {
		l = append(l, api.Row{Key: numbered(i), Value: string(rune('a' + i%26))})
	}
	return l
}

// removals is the changes that remove the rows.
func removals(l []api.Row) []api.Row {
	c := slices.Clone(l)
	for i := range c {
		c[i].Value = ""
	}
	return c
}

func join(parts ...[]api.Row) []api.Row { return slices.Concat(parts...) }

func long(n int) string { return strings.Repeat("x", n) }

func commit(changes ...api.Row) api.Act { return api.Act{Kind: api.Commit, Rows: changes} }
func get(key string) api.Act            { return api.Act{Kind: api.Get, Key: key} }
func begin(head string) api.Act         { return api.Act{Kind: api.Range, Key: head} }
func packed() api.Act                   { return api.Act{Kind: api.Pack} }
func crash(n int, changes ...api.Row) api.Act {
	return api.Act{Kind: api.Crash, N: n, Rows: changes}
}

// told is what an act without rows came to, or one with rows that came to OK.
func told(code api.Errno, l ...api.Row) api.Told { return api.Told{Code: code, Rows: l} }

// recordOf is the bytes of a change.
func recordOf(r api.Row) []byte {
	return slices.Concat([]byte{byte(len(r.Key))}, []byte(r.Key), []byte(r.Value))
}

// frameOf is the frame of a record, with the sums in closed form: after n bytes,
// s has each byte and 1 once, and t those of the k-th byte from the end k times.
func frameOf(last int, record []byte) []byte {
	b := append([]byte{byte(len(record)), byte(last)}, record...)
	s, t := 0, 0
	for i, c := range b {
		s += int(c) + 1
		t += (len(b) - i) * (int(c) + 1)
	}
	return append(b, byte(s%251), byte(t%251))
}

// batchOf is a batch of any records.
func batchOf(records ...[]byte) []byte {
	var b []byte
	for i, r := range records {
		last := 0
		if i == len(records)-1 {
			last = 1
		}
		b = append(b, frameOf(last, r)...)
	}
	return b
}

// fileOf is the file with a batch of each list of changes.
func fileOf(batches ...[]api.Row) []byte {
	var b []byte
	for _, changes := range batches {
		var records [][]byte
		for _, r := range changes {
			records = append(records, recordOf(r))
		}
		b = append(b, batchOf(records...)...)
	}
	return b
}

// likeRecover is the second version of Recover: it puts the values into a map,
// of which the keys are sorted in the end.
func likeRecover(b []byte) ([]api.Row, int, api.Errno) {
	if len(b) > 1200 {
		return nil, 0, size
	}
	values, used := map[string]string{}, 0
	var batch [][]byte
	for at := 0; at < len(b); {
		n := int(b[at])
		if n < 1 || n > 60 || at+n+4 > len(b) {
			break
		}
		record := b[at+2 : at+2+n]
		whole := b[at : at+n+4]
		last := bytes.Equal(whole, frameOf(1, record))
		if !last && !bytes.Equal(whole, frameOf(0, record)) {
			break
		}
		at += n + 4
		batch = append(batch, record)
		if !last {
			continue
		}
		for _, r := range batch {
			if r[0] == 0 || r[0] > 20 || len(r) < 1+int(r[0]) || len(r) > 21+int(r[0]) {
				return nil, 0, form
			}
			key, value := string(r[1:1+r[0]]), string(r[1+r[0]:])
			values[key] = value
			if value == "" {
				delete(values, key)
			}
		}
		if len(values) > 40 {
			return nil, 0, form
		}
		used, batch = at, nil
	}
	return sorted(values), used, ok
}

func sorted(values map[string]string) []api.Row {
	var l []api.Row
	for key, value := range values {
		l = append(l, api.Row{Key: key, Value: value})
	}
	slices.SortFunc(l, func(a, b api.Row) int { return strings.Compare(a.Key, b.Key) })
	return l
}

// likePlay is the second version of Play: it has no table beside the file, and
// recovers one for each act.
func likePlay(l []api.Act) (all []api.Told, file []byte, e api.Errno) {
	if len(l) > 100 {
		return nil, nil, size
	}
	for _, a := range l {
		was, _, _ := likeRecover(file)
		answer := api.Told{}
		switch a.Kind {
		case api.Commit, api.Crash:
			batch := fileOf(a.Rows)
			answer.Code = likeErrors(a, was, len(file)+len(batch))
			if answer.Code != ok {
				break
			}
			if a.Kind == api.Crash {
				batch = batch[:min(a.N, len(batch))]
			}
			file = slices.Concat(file, batch)
			_, used, _ := likeRecover(file)
			file = file[:used]
		case api.Get, api.Range:
			for _, r := range was {
				if r.Key == a.Key || a.Kind == api.Range && strings.HasPrefix(r.Key, a.Key) {
					answer.Rows = append(answer.Rows, r)
				}
			}
			if a.Kind == api.Get && answer.Rows == nil {
				answer.Code = none
			}
		case api.Pack:
			file = fileOf(was)
		default:
			answer.Code = kind
		}
		all = append(all, answer)
	}
	return all, file, ok
}

// likeErrors is the error of a commit or crash that changes this table and
// makes a file of this length.
func likeErrors(a api.Act, was []api.Row, length int) api.Errno {
	if a.Kind == api.Crash && a.N < 0 {
		return rang
	}
	if len(a.Rows) < 1 || len(a.Rows) > 60 {
		return size
	}
	values := map[string]string{}
	for _, r := range join(was, a.Rows) {
		if len(r.Key) < 1 || len(r.Key) > 20 || len(r.Value) > 20 {
			return size
		}
		values[r.Key] = r.Value
		if r.Value == "" {
			delete(values, r.Key)
		}
	}
	if len(values) > 40 || length > 1200 {
		return full
	}
	return ok
}

// withMarks is a list with spare capacity behind it, which has marks in it.
func withMarks[T any](l []T, mark T) (list, whole []T) {
	whole = slices.Concat(l, slices.Repeat([]T{mark}, 50))
	return whole[:len(l)], whole
}

// wantRecover says what Recover returns, and that the bytes stay as they are.
func wantRecover(t *testing.T, b []byte, want []api.Row, used int, code api.Errno) {
	t.Helper()
	file, whole := withMarks(b, 77)
	was := slices.Clone(whole)
	if got, n, e := Recover(file); !slices.Equal(got, want) || n != used || e != code {
		t.Errorf("Recover(%v): %q %d %d, want %q %d %d", b, got, n, e, want, used, code)
	}
	if !bytes.Equal(whole, was) {
		t.Errorf("Recover: the bytes became %v, they were %v", whole, was)
	}
}

// wantRecoverLike says that Recover returns what the second version does.
func wantRecoverLike(t *testing.T, b []byte) {
	t.Helper()
	l, used, e := likeRecover(b)
	wantRecover(t, b, l, used, e)
}

func sameTold(a, b api.Told) bool { return a.Code == b.Code && slices.Equal(a.Rows, b.Rows) }

// marked is the acts with marks behind the list and behind each of their rows.
func marked(l []api.Act) (list, whole []api.Act, rows [][]api.Row) {
	list, whole = withMarks(l, api.Act{Kind: api.Get, Key: "MARK", N: 7})
	for i := range list {
		some, all := withMarks(l[i].Rows, api.Row{Key: "mark", Value: "MARK"})
		list[i].Rows = some
		rows = append(rows, all)
	}
	return list, whole, rows
}

func sameAct(a, b api.Act) bool {
	return a.Kind == b.Kind && a.Key == b.Key && a.N == b.N && slices.Equal(a.Rows, b.Rows)
}

// wantPlay says what Play returns, and that the acts stay as they are.
func wantPlay(t *testing.T, l []api.Act, want []api.Told, left []byte, code api.Errno) {
	t.Helper()
	list, whole, rows := marked(l)
	got, file, e := Play(list)
	if !slices.EqualFunc(got, want, sameTold) || !bytes.Equal(file, left) || e != code {
		t.Errorf("Play(%v): %v %v %d, want %v %v %d", l, got, file, e, want, left, code)
	}
	_, wasWhole, wasRows := marked(l)
	if !slices.EqualFunc(whole, wasWhole, sameAct) || !slices.EqualFunc(rows, wasRows, slices.Equal[[]api.Row]) {
		t.Errorf("Play: the acts became %v %q, they were %v %q", whole, rows, wasWhole, wasRows)
	}
}

// wantThen says what the acts come to and which table they end with, which more
// acts behind them show, also from a new file, and which the file is recovered
// to.
func wantThen(t *testing.T, l []api.Act, want []api.Told, table []api.Row, left []byte) {
	t.Helper()
	wantPlay(t, l, want, left, ok)
	wantPlay(t, slices.Concat(l, []api.Act{begin("")}), slices.Concat(want, []api.Told{told(ok, table...)}), left, ok)
	wantRecover(t, left, table, len(left), ok)
	if len(l) < api.MaxActs-1 {
		wantPlay(t, slices.Concat(l, []api.Act{packed(), begin("")}), slices.Concat(want, []api.Told{told(ok), told(ok, table...)}), fileOf(table), ok)
	}
}

// wantPlayLike says that Play returns what the second version does, and that
// Recover of its file gives the whole table.
func wantPlayLike(t *testing.T, l []api.Act) {
	t.Helper()
	answers, left, e := likePlay(l)
	wantPlay(t, l, answers, left, e)
	wantRecoverLike(t, left)
	if _, used, e := Recover(left); used != len(left) || e != ok {
		t.Errorf("Recover of the file of Play(%v): %d of %d bytes, %d", l, used, len(left), e)
	}
}

func overlap(a, b string) bool {
	if a == "" || b == "" {
		return false
	}
	p, q := uintptr(unsafe.Pointer(unsafe.StringData(a))), uintptr(unsafe.Pointer(unsafe.StringData(b)))
	return p < q+uintptr(len(b)) && q < p+uintptr(len(a))
}

func TestLimitsP10_1P10_2(t *testing.T) {
	if api.MaxRows != 40 || api.MaxName != 20 || api.MaxList != 60 || api.MaxActs != 100 || api.MaxDisk != 1200 || api.MaxRecord != 60 {
		t.Errorf("the limits are %d, %d, %d, %d, %d and %d", api.MaxRows, api.MaxName, api.MaxList, api.MaxActs, api.MaxDisk, api.MaxRecord)
	}
	if api.Commit != 1 || api.Get != 2 || api.Range != 3 || api.Pack != 4 || api.Crash != 5 {
		t.Errorf("the kinds are %d, %d, %d, %d and %d", api.Commit, api.Get, api.Range, api.Pack, api.Crash)
	}
}

// Each sum is worked out by hand.
func TestFilesByHandP10_1P10_2(t *testing.T) {
	put := []byte{3, 1, 1, 97, 49, 156, 29}
	remove := []byte{2, 1, 1, 97, 105, 120}
	two := []byte{3, 0, 1, 97, 49, 155, 25, 2, 1, 1, 98, 106, 121}
	a, b := api.Row{Key: "a", Value: "1"}, api.Row{Key: "b"}
	wantRecover(t, put, table("a", "1"), 7, ok)
	wantRecover(t, remove, nil, 6, ok)
	wantRecover(t, two, table("a", "1"), 13, ok)
	wantRecover(t, slices.Concat(put, remove), nil, 13, ok)
	wantRecover(t, slices.Concat(put, remove, put), table("a", "1"), 20, ok)
	wantThen(t, []api.Act{commit(a)}, []api.Told{told(ok)}, table("a", "1"), put)
	wantThen(t, []api.Act{commit(a, b)}, []api.Told{told(ok)}, table("a", "1"), two)
	wantThen(t, []api.Act{commit(api.Row{Key: "a"})}, []api.Told{told(ok)}, nil, remove)
	wantThen(t, []api.Act{commit(a), commit(api.Row{Key: "a"})}, []api.Told{told(ok), told(ok)}, nil, slices.Concat(put, remove))
	wantThen(t, []api.Act{commit(b), commit(a), packed()}, []api.Told{told(ok), told(ok), told(ok)}, table("a", "1"), put)
	wantThen(t, []api.Act{crash(7, a), crash(6, a)}, []api.Told{told(ok), told(ok)}, table("a", "1"), put)
}

// Results share no memory with arguments or with each other, also not strings.
func TestMemoryP10_1P10_2(t *testing.T) {
	rows := table("aaaa", "1111", "aabb", "2222", "cccc", "3333")
	key := strings.Clone("aaaa")
	l := []api.Act{commit(rows...), get(key), get(key), begin("aa"), begin("aa"), commit(table("aaaa", "4444")...), get(key), crash(999, table("dddd", "5555")...), begin(""), packed(), get(key)}
	answers, left, _ := Play(l)
	again, leftAgain, _ := Play(l)
	recovered, _, _ := Recover(left)
	recoveredAgain, _, _ := Recover(left)

	var lists [][]api.Row
	for _, a := range slices.Concat(answers, again) {
		lists = append(lists, a.Rows)
	}
	lists = append(lists, recovered, recoveredAgain)
	for i, some := range lists {
		for j, other := range slices.Concat(lists[:i], [][]api.Row{rows, l[5].Rows, l[7].Rows, {{Key: key, Value: key}}}) {
			for _, r := range some {
				for _, o := range other {
					if overlap(r.Key, o.Key) || overlap(r.Key, o.Value) || overlap(r.Value, o.Key) || overlap(r.Value, o.Value) {
						t.Errorf("the lists %d and %d share the memory of strings: %q, %q", i, j, r, o)
					}
				}
			}
		}
	}

	// Each result is spoiled with its spare capacity, and the others stay.
	was := make([][]api.Row, len(lists))
	for i := range lists {
		was[i] = slices.Clone(lists[i])
	}
	wasLeft := slices.Clone(left)
	for i := range lists {
		spoiled := lists[i][:cap(lists[i])]
		for j := range spoiled {
			spoiled[j] = api.Row{Key: "spoiled"}
		}
		for j := i + 1; j < len(lists); j++ {
			if !slices.Equal(lists[j], was[j]) {
				t.Errorf("the lists %d and %d share memory", i, j)
			}
		}
	}
	spare := answers[:cap(answers)]
	for i := range spare {
		spare[i] = api.Told{Code: 99}
	}
	spoiled := leftAgain[:cap(leftAgain)]
	for i := range spoiled {
		spoiled[i] = 99
	}
	if !bytes.Equal(left, wasLeft) || !slices.Equal(rows, table("aaaa", "1111", "aabb", "2222", "cccc", "3333")) {
		t.Error("a result shares memory with another one, or with an argument")
	}
}

// Nothing is kept: neither the arguments, which change behind a call, nor
// anything else.
func TestNothingKeptP10_1P10_2(t *testing.T) {
	rows := table("a", "1", "b", "2")
	l := []api.Act{commit(rows...), begin("")}
	answers, left, _ := Play(l)
	for i := range rows {
		rows[i] = api.Row{Key: "z", Value: "9"}
	}
	l[1] = packed()
	if !slices.Equal(answers[1].Rows, table("a", "1", "b", "2")) || !bytes.Equal(left, fileOf(table("a", "1", "b", "2"))) {
		t.Errorf("%v %v", answers, left)
	}
	recovered, _, _ := Recover(left)
	for i := range left {
		left[i] = 0
	}
	if !slices.Equal(recovered, table("a", "1", "b", "2")) {
		t.Errorf("%q", recovered)
	}
	for range 2 {
		wantPlay(t, []api.Act{begin(""), get("a"), commit(table("c", "3")...)}, []api.Told{told(ok), told(none), told(ok)}, fileOf(table("c", "3")), ok)
		wantRecover(t, nil, nil, 0, ok)
	}
}
