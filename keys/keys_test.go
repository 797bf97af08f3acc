package keys

import (
	"math"
	"regexp"
	"slices"
	"strings"
	"testing"

	"bagnall/api"
)

const (
	ok    = api.OK
	size  = api.ErrSize
	rang  = api.ErrRange
	kind  = api.ErrKind
	form  = api.ErrForm
	twice = api.ErrTwice
	none  = api.ErrNone
	full  = api.ErrFull
)

func leave(sort, id, body string) api.Ask {
	return api.Ask{Kind: api.Leave, Sort: sort, Id: id, Body: body}
}

func spare(sort, id, body string) api.Ask {
	return api.Ask{Kind: api.Spare, Sort: sort, Id: id, Body: body}
}

func claim(sort string, by int) api.Ask { return api.Ask{Kind: api.Claim, Sort: sort, By: by} }

func count(sort string) api.Ask { return api.Ask{Kind: api.Count, Sort: sort} }

// failed is the answer to an ask with an error.
func failed(code api.Errno) api.Given { return api.Given{Code: code} }

// many is the answer to an ask that gives no key.
func many(n int) api.Given { return api.Given{Many: n} }

// given is the answer to a claim that gives a key that was added.
func given(id, body string, n int) api.Given { return api.Given{Id: id, Body: body, Many: n} }

// givenSpare is the answer to a claim that gives a spare key.
func givenSpare(id, body string, n int) api.Given {
	return api.Given{Id: id, Body: body, Spare: true, Many: n}
}

func join[T any](parts ...[]T) []T { return slices.Concat(parts...) }

// leaveAll adds a key with each of the ids, the body of which is "of" and the id.
func leaveAll(sort string, ids ...string) []api.Ask {
	var l []api.Ask
	for _, id := range ids {
		l = append(l, leave(sort, id, "of"+id))
	}
	return l
}

// counted is the answers 1, 2 and so on up to n.
func counted(n int) []api.Given {
	var l []api.Given
	for i := range n {
		l = append(l, many(i+1))
	}
	return l
}

// letters is the first n letters, as ids.
func letters(n int) []string { return strings.Split("ABCDEFGHIJKLMNOPQRSTUVWXYZ"[:n], "") }

var (
	kindForm = regexp.MustCompile(`\A[a-z0-9_]{1,20}\z`)
	idForm   = regexp.MustCompile(`\A[A-Za-z0-9_+/]{1,20}\z`)
)

// likePlay is the second version of Play: it keeps nothing but the asks and
// their answers, and looks for what it needs in them.
func likePlay(l []api.Ask) (answers []api.Given, e api.Errno) {
	if len(l) > 100 {
		return nil, size
	}
	for i, a := range l {
		answers = append(answers, likeAnswer(l[:i], answers, a))
	}
	return answers, ok
}

func likeAnswer(l []api.Ask, answers []api.Given, a api.Ask) api.Given {
	if code := likeCheck(a); code != ok {
		return failed(code)
	}
	var added []api.Ask
	var claims []api.Given
	answer := many(0)
	for i, was := range l {
		switch {
		case was.Sort != a.Sort || answers[i].Code != ok:
		case was.Kind == api.Leave:
			added = append(added, was)
		case was.Kind == api.Spare:
			answer = givenSpare(was.Id, was.Body, 0)
		case was.Kind == api.Claim && was.By == a.By && a.Kind == api.Claim:
			return likeAgain(l, answers, a, answers[i])
		case was.Kind == api.Claim && !answers[i].Spare:
			claims = append(claims, answers[i])
		}
	}
	isGiven := func(k api.Ask) bool {
		return slices.ContainsFunc(claims, func(g api.Given) bool { return g.Id == k.Id })
	}
	isSame := func(k api.Ask) bool { return k.Id == a.Id }
	left := slices.DeleteFunc(slices.Clone(added), isGiven)
	slices.SortFunc(left, func(a, b api.Ask) int { return strings.Compare(a.Id, b.Id) })
	switch {
	case a.Kind == api.Leave && slices.ContainsFunc(added, isSame):
		return failed(twice)
	case a.Kind == api.Leave && len(left) == 12:
		return failed(full)
	case a.Kind == api.Leave:
		return many(len(left) + 1)
	case a.Kind == api.Claim && len(left) > 0:
		return given(left[0].Id, left[0].Body, len(left)-1)
	case a.Kind == api.Claim && !answer.Spare:
		return failed(none)
	case a.Kind == api.Claim:
		return answer
	}
	return many(len(left))
}

// likeAgain is the answer to a repeated claim, the first of which had an answer.
func likeAgain(l []api.Ask, answers []api.Given, a api.Ask, first api.Given) api.Given {
	first.Many = likeAnswer(l, answers, count(a.Sort)).Many
	return first
}

func likeCheck(a api.Ask) api.Errno {
	isPut := a.Kind == api.Leave || a.Kind == api.Spare
	switch {
	case !isPut && a.Kind != api.Claim && a.Kind != api.Count:
		return kind
	case !kindForm.MatchString(a.Sort) || isPut && !idForm.MatchString(a.Id):
		return form
	case a.Kind == api.Claim && a.By < 1:
		return rang
	}
	return ok
}

// withMarks is a list with spare capacity behind it, which has marks in it.
func withMarks[T any](l []T, mark T) (list, whole []T) {
	whole = join(l, slices.Repeat([]T{mark}, 30))
	return whole[:len(l)], whole
}

// wantPlay says what Play returns, and that the asks stay as they are.
func wantPlay(t *testing.T, l []api.Ask, want []api.Given, code api.Errno) {
	t.Helper()
	list, whole := withMarks(l, api.Ask{Kind: api.Leave, Sort: "mark", Id: "MARK", Body: "mark", By: 7})
	was := slices.Clone(whole)
	if got, e := Play(list); !slices.Equal(got, want) || e != code {
		t.Errorf("Play(%v): %v %d, want %v %d", l, got, e, want, code)
	}
	if !slices.Equal(whole, was) {
		t.Errorf("Play: the asks became %v, they were %v", whole, was)
	}
}

// wantPlayLike says that Play returns what the second version does.
func wantPlayLike(t *testing.T, l []api.Ask) {
	t.Helper()
	answers, e := likePlay(l)
	wantPlay(t, l, answers, e)
}

// wantLast says what the last ask comes to.
func wantLast(t *testing.T, l []api.Ask, want api.Given) {
	t.Helper()
	got, e := Play(l)
	if len(got) != len(l) || e != ok || got[len(l)-1] != want {
		t.Errorf("Play(%v): %v %d, want %v at the end", l, got, e, want)
	}
	wantPlayLike(t, l)
}

// later is asks that show the whole collection for the sorts a and b.
func later() []api.Ask {
	l := []api.Ask{count("a"), count("b")}
	for _, sort := range []string{"a", "b"} {
		for by := 1; by < 7; by++ {
			l = append(l, claim(sort, by))
		}
		for _, id := range []string{"A", "B", "C", "S"} {
			l = append(l, leave(sort, id, "later"), claim(sort, 9), count(sort))
		}
	}
	return append(l, count("a"), count("b"))
}

// wantError says that the ask has the error behind the others, all other fields
// of its answer are empty, and that it has no effect on later answers.
func wantError(t *testing.T, before []api.Ask, a api.Ask, code api.Errno) {
	t.Helper()
	wantLast(t, join(before, []api.Ask{a}), failed(code))
	without, _ := Play(join(before, later()))
	with := slices.Insert(slices.Clone(without), len(before), failed(code))
	wantPlay(t, join(before, []api.Ask{a}, later()), with, ok)
}

func TestLimitsP11_1(t *testing.T) {
	if api.MaxKeys != 12 || api.MaxActs != 100 || api.MaxName != 20 {
		t.Errorf("the limits are %d, %d and %d", api.MaxKeys, api.MaxActs, api.MaxName)
	}
	if api.Leave != 1 || api.Spare != 2 || api.Claim != 3 || api.Count != 4 {
		t.Errorf("the kinds are %d, %d, %d and %d", api.Leave, api.Spare, api.Claim, api.Count)
	}
}

func TestNoAskP11_1(t *testing.T) {
	wantPlay(t, nil, nil, ok)
	wantPlay(t, []api.Ask{}, nil, ok)
}

func TestExamplesP11_1(t *testing.T) {
	wantPlay(t, []api.Ask{leave("ed", "B", "x"), leave("ed", "A", "y"), claim("ed", 1)}, []api.Given{many(1), many(2), given("A", "y", 1)}, ok)
	l := []api.Ask{leave("ed", "B", "x"), leave("ed", "A", "y"), spare("ed", "S", "z"), claim("ed", 5), claim("ed", 3), claim("ed", 4), claim("ed", 1), claim("ed", 3)}
	wantPlay(t, l, []api.Given{many(1), many(2), many(2), given("A", "y", 1), given("B", "x", 0), givenSpare("S", "z", 0), givenSpare("S", "z", 0), given("B", "x", 0)}, ok)
}

// Each kind of ask alone on an empty collection.
func TestEachKindAloneP11_1(t *testing.T) {
	wantPlay(t, []api.Ask{leave("a", "A", "x")}, []api.Given{many(1)}, ok)
	wantPlay(t, []api.Ask{spare("a", "A", "x")}, []api.Given{many(0)}, ok)
	wantPlay(t, []api.Ask{claim("a", 1)}, []api.Given{failed(none)}, ok)
	wantPlay(t, []api.Ask{count("a")}, []api.Given{many(0)}, ok)
}

// An unknown kind is an error ahead of those of the other fields.
func TestKindsP11_1(t *testing.T) {
	before := []api.Ask{leave("a", "A", "x"), spare("a", "S", "y"), claim("a", 1), leave("a", "B", "z")}
	for _, k := range []int{0, -1, 5, 6, 7, -4, 256, 257, 260, 1 << 32, 1<<32 + 1, math.MaxInt, math.MinInt, math.MinInt + 1} {
		wantError(t, before, api.Ask{Kind: k, Sort: "a", Id: "C", Body: "x", By: 2}, kind)
		wantError(t, before, api.Ask{Kind: k, Sort: "a", Id: "A", By: 1}, kind)
		wantError(t, before, api.Ask{Kind: k, Sort: "A", Id: "-", By: -1}, kind)
		wantError(t, before, api.Ask{Kind: k}, kind)
	}
}

// wantSort says whether the Sort is one for each kind of ask.
func wantSort(t *testing.T, sort string, isSort bool) {
	t.Helper()
	l := []api.Ask{leave(sort, "A", "x"), spare(sort, "S", "y"), claim(sort, 1), count(sort)}
	if isSort {
		wantPlay(t, l, []api.Given{many(1), many(1), given("A", "x", 0), many(0)}, ok)
		return
	}
	wantPlay(t, l, []api.Given{failed(form), failed(form), failed(form), failed(form)}, ok)
}

// wantId says whether the id is one for each kind of ask that looks at it.
func wantId(t *testing.T, id string, isId bool) {
	t.Helper()
	l := []api.Ask{leave("a", id, "x"), claim("a", 1), spare("a", id, "y"), claim("a", 2)}
	if isId {
		wantPlay(t, l, []api.Given{many(1), given(id, "x", 0), many(0), givenSpare(id, "y", 0)}, ok)
		return
	}
	wantPlay(t, l, []api.Given{failed(form), failed(none), failed(form), failed(none)}, ok)
}

func TestEachByteP11_1(t *testing.T) {
	for i := range 256 {
		c := string([]byte{byte(i)})
		isSort := strings.Contains("abcdefghijklmnopqrstuvwxyz0123456789_", c)
		isId := strings.Contains("ABCDEFGHIJKLMNOPQRSTUVWXYZabcdefghijklmnopqrstuvwxyz0123456789_+/", c)
		for _, shape := range []string{"?", "?aa", "a?a", "aa?", "?" + strings.Repeat("a", 19), strings.Repeat("a", 19) + "?"} {
			s := strings.Replace(shape, "?", c, 1)
			wantSort(t, s, isSort)
			wantId(t, s, isId)
		}
	}
}

func TestEachLengthP11_1(t *testing.T) {
	for n := range 60 {
		wantSort(t, strings.Repeat("a", n), n > 0 && n <= 20)
		wantId(t, strings.Repeat("A", n), n > 0 && n <= 20)
	}
	for _, n := range []int{255, 256, 257, 276, 600, 1200, 65537, 1 << 20} {
		wantSort(t, strings.Repeat("a", n), false)
		wantId(t, strings.Repeat("A", n), false)
	}
}

// A colon that moves into the Sort or the id does not make them right, also if
// both together are a key identifier.
func TestColonsP11_1(t *testing.T) {
	for _, s := range []string{":", "a:", ":a", "a:b", "a:A", "::", "a::", "a:b:c"} {
		wantSort(t, s, false)
		wantId(t, s, false)
		for _, other := range []string{"", ":", "a", "A", "a:b"} {
			wantError(t, nil, leave(s, other, "x"), form)
			wantError(t, nil, leave(other, s, "x"), form)
			wantError(t, nil, spare(s, other, "x"), form)
			wantError(t, nil, spare(other, s, "x"), form)
		}
	}
}

func TestOtherNamesP11_1(t *testing.T) {
	for _, s := range []string{"é", "a\x00", "\xff", "a\n", "\na", " a", "a ", "a-b", "a.b", "@a", "a=", "\u212a", "ａ"} {
		wantSort(t, s, false)
		wantId(t, s, false)
	}
	for _, s := range []string{"0", "_", "9_a", "ed25519", "curve25519", "signed_curve25519", "a0123456789012345678"} {
		wantSort(t, s, true)
		wantId(t, s, true)
	}
	for _, s := range []string{"+", "/", "A", "AAAAAQ", "a+/Z", "++++++++++++++++++++"} {
		wantSort(t, s, false)
		wantId(t, s, true)
	}
}

// A wrong Sort or id is an error ahead of those of the ask itself.
func TestFormFirstP11_1(t *testing.T) {
	before := join(leaveAll("a", letters(12)...), []api.Ask{spare("a", "S", "s"), claim("b", 1)})
	for _, by := range []int{0, -1, 1, math.MinInt} {
		wantError(t, before, api.Ask{Kind: api.Claim, Sort: "A", By: by}, form)
		wantError(t, before, api.Ask{Kind: api.Claim, Sort: "", By: by}, form)
	}
	wantError(t, before, leave("a", "", "x"), form)
	wantError(t, before, leave("a", "A:", "x"), form)
	wantError(t, before, leave("A", "A", "x"), form)
	wantError(t, before, spare("a", "", "x"), form)
	wantError(t, before, spare("", "S", "x"), form)
	wantError(t, before, count(""), form)
	wantError(t, before, count("a "), form)
}

func TestByP11_1(t *testing.T) {
	before := []api.Ask{leave("a", "A", "x"), leave("a", "B", "y"), spare("a", "S", "z"), spare("b", "S", "z")}
	for _, by := range []int{0, -1, -2, math.MinInt, math.MinInt + 1, math.MinInt32, -1 << 32} {
		wantError(t, before, claim("a", by), rang)
		wantError(t, before, claim("b", by), rang)
		wantError(t, before, claim("c", by), rang)
		wantError(t, join(before, []api.Ask{claim("a", 1), claim("a", 2), claim("a", 3)}), claim("a", by), rang)
	}
	for _, by := range []int{1, 2, 255, 256, 257, 1 << 32, 1<<32 + 1, math.MaxInt32, math.MaxInt - 1, math.MaxInt} {
		wantLast(t, join(before, []api.Ask{claim("a", by)}), given("A", "x", 1))
		wantLast(t, join(before, []api.Ask{claim("a", by), claim("a", 7)}), given("B", "y", 0))
		wantLast(t, join(before, []api.Ask{claim("a", by), claim("a", 7), claim("a", by)}), given("A", "x", 0))
	}
}

// Fields that the document does not name for a kind are not looked at.
func TestFieldsNotLookedAtP11_1(t *testing.T) {
	for _, by := range []int{0, -1, 1, 2, math.MaxInt, math.MinInt} {
		l := []api.Ask{leave("a", "A", "x"), leave("a", "B", "y"), spare("a", "S", "z"), count("a"), claim("a", 1), claim("a", 1)}
		for i := range 4 {
			l[i].By = by
		}
		want := []api.Given{many(1), many(2), many(2), many(2), given("A", "x", 1), given("A", "x", 1)}
		for _, id := range []string{"", "A", "B", "S", "C", "-", ":", strings.Repeat("x", 30)} {
			for i := 3; i < len(l); i++ {
				l[i].Id, l[i].Body = id, "not looked at"+id
			}
			wantPlay(t, l, want, ok)
		}
	}
}

// A body may be any string.
func TestBodiesP11_1(t *testing.T) {
	bodies := []string{"", " ", "x", "é", "\x00", "\xff\xfe", "\u2028", strings.Repeat("x", 20), strings.Repeat("x", 21), strings.Repeat("y", 601), strings.Repeat("\xff", 100000)}
	for _, b := range bodies {
		for _, c := range bodies {
			l := []api.Ask{leave("a", "A", b), leave("a", "B", c), spare("a", "S", b), claim("a", 1), claim("a", 2), claim("a", 3), claim("a", 1), spare("a", "S", c), claim("a", 4), claim("a", 3)}
			wantPlay(t, l, []api.Given{many(1), many(2), many(2), given("A", b, 1), given("B", c, 0), givenSpare("S", b, 0), given("A", b, 0), many(0), givenSpare("S", c, 0), givenSpare("S", b, 0)}, ok)
		}
	}
}

func TestMaxActsP11_1(t *testing.T) {
	for _, a := range []api.Ask{leave("a", "A", "x"), spare("a", "S", "x"), claim("a", 1), count("a"), {}, {Kind: 5}, claim("a", 0), count("A")} {
		wantPlayLike(t, slices.Repeat([]api.Ask{a}, 99))
		wantPlayLike(t, slices.Repeat([]api.Ask{a}, 100))
		wantPlay(t, slices.Repeat([]api.Ask{a}, 101), nil, size)
		wantPlay(t, slices.Repeat([]api.Ask{a}, 102), nil, size)
		wantPlay(t, slices.Repeat([]api.Ask{a}, 100000), nil, size)
	}
	wantPlay(t, slices.Repeat([]api.Ask{count("a")}, 100), make([]api.Given, 100), ok)
}
