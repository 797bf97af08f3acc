package box

import (
	"math/rand"
	"slices"
	"strconv"
	"strings"
	"sync"
	"testing"
	"unsafe"

	"bagnall/api"
)

// A message is known by its sender and Txn, whatever its Body.
func TestSameTxnTwiceP12_1(t *testing.T) {
	for _, body := range []string{"x", "y", "", strings.Repeat("z", 20)} {
		again := send(ann, 1, body)
		wantPlay(t, posts(send(ann, 1, "x"), again, again, fetch(0), fetch(1), fetch(0)), results(got(1), got(1), got(1), got(1, mail(1, ann, "x")), got(1), got(1)), ok)

		// Also with other messages behind it.
		wantPlay(t, posts(send(ann, 1, "x"), send(ann, 2, "v"), again, fetch(0)), results(got(1), got(2), got(2), got(2, mail(1, ann, "x"), mail(2, ann, "v"))), ok)
		wantPlay(t, posts(send(ann, 2, "v"), send(ann, 1, "x"), again, fetch(0)), results(got(1), got(2), got(2), got(2, mail(1, ann, "v"), mail(2, ann, "x"))), ok)

		// Also after it was fetched and removed.
		wantPlay(t, posts(send(ann, 1, "x"), fetch(0), again, fetch(1), again, fetch(0), send(ann, 2, "v"), again, fetch(0)), results(got(1), got(1, mail(1, ann, "x")), got(1), got(1), got(1), got(1), got(2), got(2), got(2, mail(2, ann, "v"))), ok)

		// Also when the box is full, with it or without it.
		before := join(posts(send(ann, 1, "x")), sendAll(bob, 1, 9))
		wantLast(t, join(before, posts(again)), got(10))
		wantLast(t, join(before, posts(again, fetch(9))), got(10, mail(10, bob, "mi")))
		wantLast(t, join(before, posts(fetch(1), send(bob, 10, "v"), again)), got(11))
		wantError(t, join(before, posts(again)), send(ann, 2, "x"), full)

		// Also after the box was shut.
		wantPlay(t, posts(send(ann, 1, "x"), shut(), again, fetch(0), again, fetch(1)), results(got(1), got(1), got(1), got(1), got(1), got(1)), ok)
		wantPlay(t, posts(send(ann, 1, "x"), fetch(1), shut(), again), results(got(1), got(1), got(1), got(1)), ok)
		wantError(t, posts(send(ann, 1, "x"), shut(), again), send(ann, 2, body), none)
	}
}

// Each sender has numbers of its own.
func TestSameTxnOfOtherSenderP12_1(t *testing.T) {
	froms := []string{"@a:x", "@b:x", "@a:y", "@a:x1", "@aa:x", "@a:xx", "@1:x", "@a=:x", "@a/:x", "@a.:x"}
	var l []api.Post
	for i, from := range froms {
		l = append(l, send(from, 1, strconv.Itoa(i)))
	}
	wantPlay(t, l, counted(1, 10), ok)
	for i, p := range l {
		wantLast(t, join(l, posts(p)), got(10))
		wantLast(t, join(l, posts(p, fetch(9))), got(10, mail(10, "@a.:x", "9")))
		wantLast(t, join(l[:i], posts(p)), got(i+1))
	}

	// The sender and the number tell messages apart, not their text in a row.
	l = posts(send("@a:x", 11, "1"), send("@a:x1", 1, "2"), send("@a:x11", 0, "3"), send("@a:x", 1, "4"), send("@a:x1", 11, "5"), send("@a:x", 0, "6"), send("@a:x0", 0, "7"), send("@a:x", 110, "8"))
	wantPlay(t, l, counted(1, 8), ok)
	for _, p := range l {
		wantLast(t, join(l, posts(p)), got(8))
	}
}

// A message that had an error was not accepted, and may be sent again.
func TestSendAgainAfterErrorP12_1(t *testing.T) {
	long := strings.Repeat("x", 21)
	wantPlay(t, posts(send(ann, 1, long), send(ann, 1, "x"), send(ann, 1, "y"), fetch(0)), results(failed(size), got(1), got(1), got(1, mail(1, ann, "x"))), ok)
	wantPlay(t, posts(send("a", 1, "x"), send(ann, 1, "y"), fetch(0)), results(failed(name), got(1), got(1, mail(1, ann, "y"))), ok)
	wantPlay(t, posts(send(ann, -1, "x"), send(ann, 1, "y"), fetch(0)), results(failed(rang), got(1), got(1, mail(1, ann, "y"))), ok)
	before := sendAll(ann, 1, 10)
	wantPlay(t, join(before, posts(send(bob, 1, "x"), fetch(1), send(bob, 1, "y"), send(bob, 1, "x"), fetch(9))),
		join(counted(1, 10), results(failed(full), got(10, mailAll(ann, 1, 10, 2)...), got(11), got(11), got(11, mail(10, ann, "mj"), mail(11, bob, "y")))), ok)
	wantPlay(t, posts(shut(), send(bob, 1, "x"), send(bob, 1, "x"), fetch(0)), results(got(0), failed(none), failed(none), got(0)), ok)
	wantPlay(t, join(before, posts(send(bob, 1, "x"), shut(), send(bob, 1, "x"))), join(counted(1, 10), results(failed(full), got(10), failed(none))), ok)
}

func TestMaxBoxP12_1(t *testing.T) {
	ten := sendAll(ann, 0, 10)
	wantPlay(t, ten, counted(1, 10), ok)
	wantPlay(t, join(ten, posts(send(ann, 10, "x"), send(bob, 0, "x"), send(bob, 0, "x"), fetch(0))),
		join(counted(1, 10), results(failed(full), failed(full), failed(full), got(10, mailAll(ann, 1, 10, 1)...))), ok)
	wantError(t, ten, send(ann, 10, "x"), full)
	wantError(t, ten, send(bob, 0, ""), full)
	wantError(t, join(ten, posts(fetch(0))), send(bob, 0, "x"), full)
	wantError(t, join(ten, posts(fetch(11), fetch(-1))), send(bob, 0, "x"), full)
	wantError(t, sendAll(ann, 0, 9), send("a", 10, "x"), name)
	wantLast(t, join(ten[:9], posts(ten[0], ten[0], send(bob, 0, "x"))), got(10))

	// There is room again for as many messages as were removed.
	for n := 1; n <= 10; n++ {
		before := join(ten, posts(fetch(n)), sendAll(bob, 0, n))
		wantPlay(t, join(before, posts(fetch(n), fetch(10))), join(counted(1, 10), results(got(10, mailAll(ann, 1, 10, n+1)...)), counted(11, n),
			results(got(10+n, join(mailAll(ann, 1, 10, n+1), mailAll(bob, 11, n, 0))...), got(10+n, mailAll(bob, 11, n, 0)...))), ok)
		wantError(t, before, send(cyd, 1, "x"), full)
		wantError(t, join(before, posts(fetch(n-1))), send(cyd, 1, "x"), full)
		wantLast(t, join(before, posts(fetch(n+1), send(cyd, 1, "x"))), got(11+n))
	}
}

// More than MaxBox messages are accepted and removed in the end.
func TestManyMessagesP12_1(t *testing.T) {
	var l []api.Post
	var want []api.Got
	for i := range 33 {
		l = append(l, send(ann, 3*i, strconv.Itoa(i)), fetch(i), fetch(i+1))
		want = append(want, got(i+1), got(i+1, mail(i+1, ann, strconv.Itoa(i))), got(i+1))
	}
	wantPlay(t, append(l, send(ann, 0, "x")), append(want, got(33)), ok)

	l, want = nil, nil
	for round := range 9 {
		l = append(append(l, sendAll(ann, 10*round, 10)...), fetch(10*round+10))
		want = append(append(want, counted(10*round+1, 10)...), got(10*round+10))
	}
	wantPlay(t, append(l, fetch(91)), append(want, failed(old)), ok)
}

// Fetch from each position of boxes of each size.
func TestFetchP12_1(t *testing.T) {
	for n := range 11 {
		before := sendAll(ann, 5, n)
		for since := range n + 1 {
			wantPlay(t, join(before, posts(fetch(since), fetch(since), fetch(0))), join(counted(1, n), slices.Repeat(results(got(n, mailAll(ann, 1, n, since+1)...)), 3)), ok)
			for next := range n + 1 {
				wantLast(t, join(before, posts(fetch(since), fetch(next))), got(n, mailAll(ann, 1, n, max(since, next)+1)...))
				wantLast(t, join(before, posts(fetch(since), fetch(next), fetch(0))), got(n, mailAll(ann, 1, n, max(since, next)+1)...))
			}
			wantError(t, join(before, posts(fetch(since))), fetch(n+1), old)
		}
		wantError(t, before, fetch(n+1), old)
	}
}

// Fetch returns each message once in the order in which they were accepted, with
// its own position, sender and body.
func TestOrderOfMailP12_1(t *testing.T) {
	l := posts(send(cyd, 9, "3"), send(ann, 5, "1"), send(bob, 0, ""), send(ann, 4, "1"), send(cyd, 1, "0"), send(ann, 9, "2"))
	all := []api.Mail{mail(1, cyd, "3"), mail(2, ann, "1"), mail(3, bob, ""), mail(4, ann, "1"), mail(5, cyd, "0"), mail(6, ann, "2")}
	for since := range 7 {
		wantPlay(t, join(l, posts(fetch(since))), join(counted(1, 6), results(got(6, all[since:]...))), ok)
	}
}

func TestShutP12_1(t *testing.T) {
	for n := range 11 {
		for gone := range n + 1 {
			before := join(sendAll(ann, 0, n), posts(fetch(gone), shut()))
			wantLast(t, before, got(n))
			wantLast(t, join(before, posts(fetch(0))), got(n))
			wantLast(t, join(before, posts(fetch(gone))), got(n))
			wantLast(t, join(before, posts(fetch(n), fetch(0))), got(n))
			wantError(t, before, fetch(n+1), old)
			wantError(t, before, shut(), none)
			wantError(t, join(before, posts(fetch(n))), shut(), none)
			wantError(t, before, send(bob, 0, "x"), none)
			wantError(t, before, send(ann, n, "x"), none)
			for txn := range n {
				wantLast(t, join(before, posts(send(ann, txn, "x"))), got(n))
				wantLast(t, join(before, posts(send(ann, txn, "x"), fetch(0))), got(n))
			}
		}
	}
}

// Next is how many messages were accepted, At is of all of them: neither
// depends on what was removed.
func TestAtAndNextP12_1(t *testing.T) {
	l := posts(fetch(0), send(ann, 1, "x"), fetch(0), send(ann, 1, "x"), send(bob, 1, "y"), fetch(1), send(bob, 2, "z"), fetch(3), fetch(0), send(ann, 1, "v"), send(cyd, 1, "w"), fetch(0), fetch(2), send(cyd, 2, "u"), fetch(5), fetch(6), send("a", 1, "x"), send(cyd, 3, "t"), fetch(4), shut(), fetch(0), send(cyd, 3, "t"), send(cyd, 4, "s"), shut(), fetch(6), fetch(7))
	want := results(got(0), got(1), got(1, mail(1, ann, "x")), got(1), got(2), got(2, mail(2, bob, "y")), got(3), got(3), got(3), got(3), got(4), got(4, mail(4, cyd, "w")), got(4, mail(4, cyd, "w")), got(5), got(5), failed(old), failed(name), got(6), got(6, mail(6, cyd, "t")), got(6), got(6), got(6), failed(none), failed(none), got(6), failed(old))
	wantPlay(t, l, want, ok)
}

// Errors of every kind between the posts change nothing in the others.
func TestErrorsHaveNoEffectP12_1(t *testing.T) {
	l := posts(send(ann, 1, "x"), send(bob, 1, "y"), fetch(1), send(ann, 1, "z"), send(ann, 2, "v"), fetch(3), send(cyd, 0, "w"), fetch(2), shut(), fetch(4), send(ann, 1, "u"))
	errors := posts(api.Post{Kind: 4, From: ann, Txn: 7, Body: "x"}, send(cyd, -1, "x"), fetch(-1), send("c", 7, "x"), send(cyd, 7, strings.Repeat("x", 21)), fetch(9))
	codes := []api.Errno{kind, rang, rang, name, size, old}
	plain, _ := Play(l)
	var between []api.Post
	var want []api.Got
	for i, p := range l {
		between = append(append(between, p), errors...)
		want = append(want, plain[i])
		for _, code := range codes {
			want = append(want, failed(code))
		}
	}
	wantPlay(t, between, want, ok)
	for i := range l {
		for j, p := range errors {
			wantPlay(t, slices.Insert(slices.Clone(l), i, p), slices.Insert(slices.Clone(plain), i, failed(codes[j])), ok)
			wantError(t, l[:i], p, codes[j])
		}
	}
}

// All sequences of up to five posts of a small choice.
func TestAllShortSequencesP12_1(t *testing.T) {
	choice := posts(send(ann, 1, "1"), send(ann, 1, "2"), send(ann, 0, "3"), send(bob, 1, "4"), fetch(0), fetch(1), fetch(2), fetch(3), shut(), send("a", 1, "5"))
	var extend func(l []api.Post)
	extend = func(l []api.Post) {
		if len(l) == 5 {
			wantPlayLike(t, l)
			return
		}
		for _, p := range choice {
			extend(append(l, p))
		}
	}
	extend(make([]api.Post, 0, 5))
}

// randomPosts is a list of n posts, few of which have errors of their form.
func randomPosts(r *rand.Rand, n int) []api.Post {
	froms := []string{ann, bob, cyd, "@a:y", "@a:x.", "a"}
	l := make([]api.Post, n)
	for i := range l {
		l[i] = api.Post{Kind: api.Send, From: froms[r.Intn(4)], Txn: r.Intn(12), Body: strconv.Itoa(i), Since: r.Intn(14)}
		if r.Intn(5) == 0 {
			l[i].Kind, l[i].Since = api.Fetch, r.Intn(1+i)
		}
		if r.Intn(20) == 0 {
			l[i].From, l[i].Body, l[i].Txn, l[i].Since = froms[r.Intn(6)], strings.Repeat("x", r.Intn(25)), r.Intn(9)-2, r.Intn(50)-5
		}
		if r.Intn(150) == 0 {
			l[i].Kind = r.Intn(6) - 1
		}
	}
	return l
}

func TestRandomP12_1(t *testing.T) {
	r := rand.New(rand.NewSource(12))
	seen := map[api.Errno]int{}
	partial, again := 0, 0
	for range 3000 {
		l := randomPosts(r, r.Intn(102))
		wantPlayLike(t, l)
		answers, _ := likePlay(l)
		for i, a := range answers {
			seen[a.Code]++
			if len(a.Mail) > 1 && a.Mail[0].At > 1 {
				partial++
			}
			if i > 0 && l[i].Kind == api.Send && a.Code == ok && a.Next == answers[i-1].Next {
				again++
			}
		}
	}
	for _, code := range []api.Errno{ok, size, rang, kind, name, none, full, old} {
		if seen[code] < 100 {
			t.Errorf("the code %d was seen %d times only", code, seen[code])
		}
	}
	if partial < 100 || again < 100 {
		t.Errorf("%d fetches behind removed messages and %d repeated messages were seen only", partial, again)
	}
}

func FuzzPlayP12_1(f *testing.F) {
	f.Add([]byte{1, 0, 1, 1, 0, 1, 1, 1, 1, 2, 0, 0, 2, 0, 1, 3, 0, 0}, "@a:x", "hi")
	f.Add([]byte{1, 0, 1, 1, 0, 2, 1, 0, 3, 2, 0, 2, 2, 0, 1}, "@alice:example.org", "")
	f.Add([]byte{0, 0, 0, 4, 0, 0, 3, 0, 0, 3, 0, 0}, "a:b", "xxxxxxxxxxxxxxxxxxxxx")
	f.Fuzz(func(t *testing.T, b []byte, from, body string) {
		froms := []string{ann, from, "@" + from + ":x", "@a:" + from}
		var l []api.Post
		for i := 0; i+2 < len(b); i += 3 {
			l = append(l, api.Post{Kind: int(b[i] % 6), From: froms[b[i+1]%4], Body: body + strconv.Itoa(i), Txn: int(int8(b[i+2])) / 4, Since: int(int8(b[i+2])) / 8})
		}
		wantPlayLike(t, l)
	})
}

func overlap(a, b string) bool {
	if a == "" || b == "" {
		return false
	}
	p, q := uintptr(unsafe.Pointer(unsafe.StringData(a))), uintptr(unsafe.Pointer(unsafe.StringData(b)))
	return p < q+uintptr(len(b)) && q < p+uintptr(len(a))
}

// Results share no memory with arguments or with each other, also not strings
// and not spare capacity.
func TestMemoryP12_1(t *testing.T) {
	l := posts(send("@aaaa:xxxx", 1, strings.Repeat("x", 12)), send("@bbbb:xxxx", 1, strings.Repeat("y", 12)), send("@aaaa:xxxx", 2, strings.Repeat("z", 12)), fetch(0), fetch(0), fetch(1), fetch(1), fetch(0), fetch(2), fetch(3))
	answers, _ := Play(l)
	again, _ := Play(l)
	var taken []string
	for _, p := range l {
		taken = append(taken, p.From, p.Body)
	}
	for i, a := range join(answers, again) {
		for _, m := range a.Mail {
			for _, s := range taken {
				if overlap(m.From, s) || overlap(m.Body, s) {
					t.Errorf("the result %d has memory of %q", i, s)
				}
			}
			taken = append(taken, m.From, m.Body)
		}
	}

	// Each list is spoiled with its spare capacity, and the others stay.
	wasPosts := slices.Clone(l)
	for i := range answers {
		mine := answers[i].Mail[:cap(answers[i].Mail)]
		was := slices.Clone(mine)
		for j := range mine {
			mine[j] = api.Mail{At: 99, From: "spoiled", Body: "spoiled"}
		}
		for j := range answers {
			if j != i && !isSame(answers[j], again[j]) {
				t.Errorf("the results %d and %d share memory", i, j)
			}
		}
		copy(mine, was)
	}
	whole := answers[:cap(answers)]
	for i := range whole {
		whole[i] = api.Got{Code: 99, Next: 99}
	}
	if want, _ := likePlay(l); !slices.EqualFunc(again, want, isSame) || !slices.Equal(l, wasPosts) {
		t.Error("a result shares memory with one of another call, or with an argument")
	}
}

// Nothing is kept from call to call, also not among calls at the same time.
func TestNothingIsKeptP12_1(t *testing.T) {
	lists := [][]api.Post{
		posts(fetch(0), fetch(1)),
		posts(send(ann, 1, "x"), send(bob, 1, "y"), fetch(1), fetch(0)),
		posts(send(ann, 1, "z"), fetch(0), shut(), send(ann, 2, "z")),
		sendAll(ann, 1, 11),
		posts(shut(), send(ann, 1, "x"), shut()),
	}
	var all sync.WaitGroup
	for range 8 {
		all.Go(func() {
			for i := range 200 {
				l := lists[i%len(lists)]
				want, _ := likePlay(l)
				if answers, e := Play(l); !slices.EqualFunc(answers, want, isSame) || e != ok {
					t.Errorf("Play(%v): %v %d, want %v", l, answers, e, want)
				}
			}
		})
	}
	all.Wait()
}

// What a call has taken is not retained: the list may be changed, and the
// results stay.
func TestPostsAreNotRetainedP12_1(t *testing.T) {
	l := posts(send(ann, 1, "x"), send(bob, 1, "y"), fetch(0), fetch(1))
	answers, _ := Play(l)
	for i := range l {
		l[i] = send(cyd, 9, "spoiled")
	}
	want := results(got(1), got(2), got(2, mail(1, ann, "x"), mail(2, bob, "y")), got(2, mail(2, bob, "y")))
	if !slices.EqualFunc(answers, want, isSame) {
		t.Errorf("the results became %v, they were %v", answers, want)
	}
}
