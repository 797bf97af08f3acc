package box

import (
	"math"
	"regexp"
	"slices"
	"strings"
	"testing"

	"bagnall/api"
)

const (
	ok   = api.OK
	size = api.ErrSize
	rang = api.ErrRange
	kind = api.ErrKind
	name = api.ErrName
	none = api.ErrNone
	full = api.ErrFull
	old  = api.ErrOld
)

const (
	ann = "@a:x"
	bob = "@b:x"
	cyd = "@c:x"
)

func send(from string, txn int, body string) api.Post {
	return api.Post{Kind: api.Send, From: from, Txn: txn, Body: body}
}

func fetch(since int) api.Post { return api.Post{Kind: api.Fetch, Since: since} }

func shut() api.Post { return api.Post{Kind: api.Shut} }

// failed is the result of a post with an error.
func failed(code api.Errno) api.Got { return api.Got{Code: code} }

// got is the result of a post without an error.
func got(next int, mail ...api.Mail) api.Got { return api.Got{Next: next, Mail: mail} }

func mail(at int, from, body string) api.Mail { return api.Mail{At: at, From: from, Body: body} }

func join[T any](parts ...[]T) []T { return slices.Concat(parts...) }

func posts(l ...api.Post) []api.Post { return l }

func results(l ...api.Got) []api.Got { return l }

// sendAll sends n messages of the sender with the numbers from first on, the
// bodies of which are "m" and a letter.
func sendAll(from string, first, n int) []api.Post {
	var l []api.Post
	for i := range n {
		l = append(l, send(from, first+i, "m"+string(rune('a'+i))))
	}
	return l
}

// mailAll is the messages that sendAll sends, the first of which is accepted at
// the position at, but for those ahead of the position from.
func mailAll(sender string, at, n, from int) []api.Mail {
	var l []api.Mail
	for i := range n {
		if at+i >= from {
			l = append(l, mail(at+i, sender, "m"+string(rune('a'+i))))
		}
	}
	return l
}

// counted is the results with the numbers first, first+1 and so on, n of them.
func counted(first, n int) []api.Got {
	var l []api.Got
	for i := range n {
		l = append(l, got(first+i))
	}
	return l
}

func isSame(a, b api.Got) bool {
	return a.Code == b.Code && a.Next == b.Next && slices.Equal(a.Mail, b.Mail)
}

var (
	userForm = regexp.MustCompile(`\A@[a-z0-9._=/-]{1,20}:[a-z0-9]([a-z0-9.-]{0,18}[a-z0-9])?\z`)
	dotForm  = regexp.MustCompile(`:.*[.-]\.`)
)

// likePlay is the second version of Play: it keeps nothing but the posts and
// their results, and looks for what it needs in them.
func likePlay(l []api.Post) (answers []api.Got, e api.Errno) {
	if len(l) > 100 {
		return nil, size
	}
	for i, p := range l {
		answers = append(answers, likeResult(l[:i], answers, p))
	}
	return answers, ok
}

func likeResult(l []api.Post, answers []api.Got, p api.Post) api.Got {
	if code := likeCheck(p); code != ok {
		return failed(code)
	}
	var all []api.Mail // what was accepted
	gone, isShut, isKnown := 0, false, false
	for i, was := range l {
		switch {
		case answers[i].Code != ok:
		case was.Kind == api.Shut:
			gone, isShut = len(all), true
		case was.Kind == api.Fetch:
			gone = max(gone, was.Since)
		case answers[i].Next > len(all):
			all = append(all, mail(answers[i].Next, was.From, was.Body))
			isKnown = isKnown || was.From == p.From && was.Txn == p.Txn
		}
	}
	switch {
	case p.Kind == api.Send && isKnown:
		return got(len(all))
	case p.Kind != api.Fetch && isShut:
		return failed(none)
	case p.Kind == api.Send && len(all)-gone == 10:
		return failed(full)
	case p.Kind == api.Send:
		return got(len(all) + 1)
	case p.Kind == api.Shut:
		return got(len(all))
	case p.Since > len(all):
		return failed(old)
	}
	return got(len(all), all[max(gone, p.Since):]...)
}

func likeCheck(p api.Post) api.Errno {
	switch {
	case p.Kind != api.Send && p.Kind != api.Fetch && p.Kind != api.Shut:
		return kind
	case p.Kind == api.Send && p.Txn < 0 || p.Kind == api.Fetch && p.Since < 0:
		return rang
	case p.Kind != api.Send:
		return ok
	case !userForm.MatchString(p.From) || dotForm.MatchString(p.From):
		return name
	case len(p.Body) > 20:
		return size
	}
	return ok
}

// withMarks is a list with spare capacity behind it, which has marks in it.
func withMarks[T any](l []T, mark T) (list, whole []T) {
	whole = join(l, slices.Repeat([]T{mark}, 30))
	return whole[:len(l)], whole
}

// wantPlay says what Play returns, and that the posts stay as they are.
func wantPlay(t *testing.T, l []api.Post, want []api.Got, code api.Errno) {
	t.Helper()
	list, whole := withMarks(l, api.Post{Kind: api.Send, From: "@mark:x", Txn: 7, Body: "mark", Since: 7})
	was := slices.Clone(whole)
	if answers, e := Play(list); !slices.EqualFunc(answers, want, isSame) || e != code {
		t.Errorf("Play(%v): %v %d, want %v %d", l, answers, e, want, code)
	}
	if !slices.Equal(whole, was) {
		t.Errorf("Play: the posts became %v, they were %v", whole, was)
	}
}

// wantPlayLike says that Play returns what the second version does.
func wantPlayLike(t *testing.T, l []api.Post) {
	t.Helper()
	answers, e := likePlay(l)
	wantPlay(t, l, answers, e)
}

// wantLast says what the last post comes to.
func wantLast(t *testing.T, l []api.Post, want api.Got) {
	t.Helper()
	answers, e := Play(l)
	if len(answers) != len(l) || e != ok || !isSame(answers[len(l)-1], want) {
		t.Errorf("Play(%v): %v %d, want %v at the end", l, answers, e, want)
	}
	wantPlayLike(t, l)
}

// later is posts that show the whole box: what waits, which messages of some
// senders were accepted, how much room there is, and whether it is shut.
func later() []api.Post {
	l := posts(fetch(0))
	for _, from := range []string{ann, bob, cyd} {
		for txn := range 3 {
			l = append(l, send(from, txn, "later"))
		}
	}
	l = append(l, fetch(0), fetch(1), fetch(3), fetch(2))
	l = append(l, sendAll(cyd, 10, 11)...)
	return append(l, fetch(0), shut(), send(ann, 1, "x"), send(bob, 99, "x"), fetch(0), shut())
}

// wantError says that the post has the error behind the others, all other fields
// of its result are zero, and that it has no effect on later results.
func wantError(t *testing.T, before []api.Post, p api.Post, code api.Errno) {
	t.Helper()
	wantLast(t, join(before, posts(p)), failed(code))
	without, _ := Play(join(before, later()))
	with := slices.Insert(slices.Clone(without), len(before), failed(code))
	wantPlay(t, join(before, posts(p), later()), with, ok)
	wantPlay(t, join(before, posts(p, p), later()), slices.Insert(with, len(before), failed(code)), ok)
}

// boxes is posts that lead to boxes of each kind: empty, with some messages,
// with removed ones, full, and shut with and without messages.
func boxes() [][]api.Post {
	some := posts(send(ann, 1, "x"), send(bob, 1, "y"), send(ann, 2, "z"))
	return [][]api.Post{
		nil,
		some,
		join(some, posts(fetch(2))),
		join(some, posts(fetch(3))),
		sendAll(ann, 0, 10),
		join(sendAll(ann, 0, 10), posts(fetch(4)), sendAll(bob, 0, 4)),
		posts(shut()),
		join(some, posts(shut())),
		join(some, posts(fetch(2), shut())),
	}
}

func TestLimitsP12_1(t *testing.T) {
	if api.MaxBox != 10 || api.MaxActs != 100 || api.MaxName != 20 {
		t.Errorf("the limits are %d, %d and %d", api.MaxBox, api.MaxActs, api.MaxName)
	}
	if api.Send != 1 || api.Fetch != 2 || api.Shut != 3 {
		t.Errorf("the kinds are %d, %d and %d", api.Send, api.Fetch, api.Shut)
	}
}

func TestNoPostP12_1(t *testing.T) {
	wantPlay(t, nil, nil, ok)
	wantPlay(t, []api.Post{}, nil, ok)
}

func TestExampleP12_1(t *testing.T) {
	wantPlay(t, posts(send(ann, 1, "hi"), send(ann, 1, "hi"), fetch(0)), results(got(1), got(1), got(1, mail(1, ann, "hi"))), ok)
}

// Each kind of post alone on an empty, open box.
func TestEachKindAloneP12_1(t *testing.T) {
	wantPlay(t, posts(send(ann, 1, "x")), results(got(1)), ok)
	wantPlay(t, posts(fetch(0)), results(got(0)), ok)
	wantPlay(t, posts(fetch(1)), results(failed(old)), ok)
	wantPlay(t, posts(shut()), results(got(0)), ok)
	wantPlay(t, posts(api.Post{}), results(failed(kind)), ok)
}

// An unknown kind is an error ahead of those of the other fields.
func TestKindsP12_1(t *testing.T) {
	for _, before := range boxes() {
		for _, k := range []int{0, -1, -2, -3, 4, 5, 6, 255, 256, 257, 258, 259, 1 << 32, 1<<32 + 1, math.MaxInt, math.MinInt, math.MinInt + 1} {
			wantError(t, before, api.Post{Kind: k, From: ann, Txn: 5, Body: "x", Since: 1}, kind)
			wantError(t, before, api.Post{Kind: k, From: ann, Txn: 1, Body: "x", Since: 99}, kind)
			wantError(t, before, api.Post{Kind: k, From: "a", Txn: -1, Body: strings.Repeat("x", 21), Since: -1}, kind)
			wantError(t, before, api.Post{Kind: k}, kind)
		}
	}
}

// wantFrom says whether a user may send messages.
func wantFrom(t *testing.T, from string, isUser bool) {
	t.Helper()
	l := posts(send(from, 1, "x"), send(ann, 2, "y"), send(from, 1, "x"), fetch(0))
	if isUser {
		wantPlay(t, l, results(got(1), got(2), got(2), got(2, mail(1, from, "x"), mail(2, ann, "y"))), ok)
		return
	}
	wantPlay(t, l, results(failed(name), got(1), failed(name), got(1, mail(1, ann, "y"))), ok)
}

func TestEachByteOfFromP12_1(t *testing.T) {
	for i := range 256 {
		c := string([]byte{byte(i)})
		isInner := strings.Contains("abcdefghijklmnopqrstuvwxyz0123456789", c)
		isLocal := isInner || strings.Contains("._=-/", c)
		isServer := isInner || strings.Contains(".-", c)
		for _, shape := range []string{"@?:x", "@?ab:x", "@a?b:x", "@ab?:x", "@" + strings.Repeat("a", 19) + "?:x"} {
			wantFrom(t, strings.Replace(shape, "?", c, 1), isLocal)
		}
		for _, shape := range []string{"@a:?", "@a:?xy", "@a:xy?", "@a:" + strings.Repeat("x", 19) + "?"} {
			wantFrom(t, strings.Replace(shape, "?", c, 1), isInner)
		}
		wantFrom(t, "@a:x"+c+"y", isServer)
		wantFrom(t, "@a:x-"+c+"y", isInner || c == "-")
		wantFrom(t, c+"a:x", c == "@")
		wantFrom(t, c+"@a:x", false)
		wantFrom(t, "@a"+c+"x", c == ":")
	}
}

func TestEachLengthOfFromP12_1(t *testing.T) {
	for n := range 60 {
		wantFrom(t, "@"+strings.Repeat("a", n)+":x", n > 0 && n <= 20)
		wantFrom(t, "@a:"+strings.Repeat("x", n), n > 0 && n <= 20)
		wantFrom(t, "@"+strings.Repeat("a", n)+":"+strings.Repeat("x", n), n > 0 && n <= 20)
		wantFrom(t, strings.Repeat("a", n), false)
	}
	for _, n := range []int{255, 256, 257, 276, 600, 1200, 65537, 1 << 20} {
		wantFrom(t, "@"+strings.Repeat("a", n)+":x", false)
		wantFrom(t, "@a:"+strings.Repeat("x", n), false)
	}
}

func TestOtherFromsP12_1(t *testing.T) {
	for _, s := range []string{"", "@", ":", "@:", "@a", "@a:", "@:x", "a:x", "a", "@@a:x", "@a::x", "@a:x:", "@a:x:80", "@a:b:x", "@A:x", "@a:X", " @a:x", "@a:x ", "@a :x", "@a: x", "@a:x\n", "@a:x\x00", "@é:x", "@a:é", "\xff", "@a:x..y", "@a:x-.y", "@a:.x", "@a:x.", "@a:-x", "@a:x-", "@a:x_y", "@a:x/y", "@a+b:x", "ed:A"} {
		wantFrom(t, s, false)
	}
	for _, s := range []string{"@alice:example.org", "@.:x", "@..:x", "@-:x", "@/=_:x", "@a.-b:x", "@0:0", "@a:x--y", "@a:x.-y", "@a:1.2.3.4"} {
		wantFrom(t, s, true)
	}
}

// The errors of a Send that do not depend on the box, and their order.
func TestErrorsOfSendP12_1(t *testing.T) {
	long := strings.Repeat("x", 21)
	for _, before := range boxes() {
		for _, txn := range []int{-1, -2, math.MinInt, math.MinInt + 1, math.MinInt32, -1 << 32} {
			wantError(t, before, send(ann, txn, "x"), rang)
			wantError(t, before, send("a", txn, "x"), rang)
			wantError(t, before, send(ann, txn, long), rang)
			wantError(t, before, send("", txn, long), rang)
		}
		for _, txn := range []int{0, 1, 2, 5, math.MaxInt} {
			wantError(t, before, send("a", txn, "x"), name)
			wantError(t, before, send("", txn, ""), name)
			wantError(t, before, send("@a:", txn, long), name)
			wantError(t, before, send(ann, txn, long), size)
			wantError(t, before, send(cyd, txn, long), size)
		}
	}
}

func TestTxnsP12_1(t *testing.T) {
	txns := []int{0, 1, 2, 9, 10, 255, 256, math.MaxInt32, 1 << 32, math.MaxInt}
	var l []api.Post
	for i, txn := range txns {
		l = append(l, send(ann, txn, "m"+string(rune('a'+i))))
	}
	wantPlay(t, l, counted(1, 10), ok)
	wantLast(t, join(l, posts(fetch(0))), got(10, mailAll(ann, 1, 10, 1)...))
	for _, p := range l {
		wantLast(t, join(l, posts(p)), got(10))
	}
}

// A Body has at most MaxName bytes, of any kind.
func TestBodiesP12_1(t *testing.T) {
	for _, c := range []string{"x", "\xff", "\x00", " ", "\n"} {
		for n := range 60 {
			body := strings.Repeat(c, n)
			if n > 20 {
				wantError(t, nil, send(ann, 1, body), size)
				continue
			}
			wantPlay(t, posts(send(ann, 1, body), fetch(0)), results(got(1), got(1, mail(1, ann, body))), ok)
		}
	}
	for _, n := range []int{255, 256, 257, 276, 600, 65537, 1 << 20} {
		wantError(t, nil, send(ann, 1, strings.Repeat("x", n)), size)
	}

	// Bytes count, not runes.
	wantLast(t, posts(send(ann, 1, strings.Repeat("é", 10)), fetch(0)), got(1, mail(1, ann, strings.Repeat("é", 10))))
	wantError(t, nil, send(ann, 1, strings.Repeat("é", 10)+"x"), size)
	wantError(t, nil, send(ann, 1, strings.Repeat("é", 11)), size)
}

// A Body that is too long is an error, also if the message was accepted.
func TestLongBodyOfRepeatedMessageP12_1(t *testing.T) {
	long := strings.Repeat("x", 21)
	for _, after := range [][]api.Post{nil, posts(fetch(1)), posts(shut()), sendAll(bob, 1, 9)} {
		wantError(t, join(posts(send(ann, 1, "x")), after), send(ann, 1, long), size)
		wantError(t, join(posts(send(ann, 1, "x")), after), send("a", 1, "x"), name)
		wantError(t, join(posts(send(ann, 1, "x")), after), send(ann, -1, "x"), rang)
	}
}

// A Since that is negative or greater than the number of accepted messages.
func TestSinceP12_1(t *testing.T) {
	for _, before := range boxes() {
		answers, _ := likePlay(join(before, posts(fetch(0))))
		n := answers[len(before)].Next
		for _, since := range []int{-1, -2, math.MinInt, math.MinInt + 1, math.MinInt32, -1 << 32} {
			wantError(t, before, fetch(since), rang)
		}
		for _, since := range []int{n + 1, n + 2, 11 + n, 256 + n, math.MaxInt32, 1 << 32, math.MaxInt - 1, math.MaxInt} {
			wantError(t, before, fetch(since), old)
		}
		for since := range n + 1 {
			wantPlayLike(t, join(before, posts(fetch(since)), later()))
		}
		wantLast(t, join(before, posts(fetch(n))), got(n))
		wantLast(t, join(before, posts(fetch(n), fetch(0))), got(n))
	}
}

// Fields that the document does not name for a kind are not looked at.
func TestFieldsNotLookedAtP12_1(t *testing.T) {
	l := posts(send(ann, 1, "x"), send(bob, 1, "y"), fetch(1), shut(), fetch(0))
	want := results(got(1), got(2), got(2, mail(2, bob, "y")), got(2), got(2))
	for _, n := range []int{0, 1, 2, 3, -1, 99, math.MaxInt, math.MinInt} {
		for _, s := range []string{"", ann, bob, "a", strings.Repeat("x", 21)} {
			l[0].Since, l[1].Since = n, n
			l[2].From, l[2].Body, l[2].Txn = s, s, n
			l[3].From, l[3].Body, l[3].Txn, l[3].Since = s, s, n, n
			wantPlay(t, l, want, ok)
		}
	}
}

func TestMaxActsP12_1(t *testing.T) {
	for _, p := range posts(send(ann, 1, "x"), fetch(0), fetch(1), shut(), api.Post{}, api.Post{Kind: 4}, send("a", 1, "x"), send(ann, -1, "x"), fetch(-1)) {
		wantPlayLike(t, slices.Repeat(posts(p), 99))
		wantPlayLike(t, slices.Repeat(posts(p), 100))
		wantPlay(t, slices.Repeat(posts(p), 101), nil, size)
		wantPlay(t, slices.Repeat(posts(p), 102), nil, size)
		wantPlay(t, slices.Repeat(posts(p), 100000), nil, size)
	}
	wantPlay(t, slices.Repeat(posts(fetch(0)), 100), make([]api.Got, 100), ok)
	wantPlay(t, slices.Repeat(posts(send(ann, 1, "x")), 100), slices.Repeat(results(got(1)), 100), ok)
}
