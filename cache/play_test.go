package cache

import (
	"math"
	"math/rand"
	"slices"
	"strconv"
	"strings"
	"sync"
	"testing"
	"unsafe"

	"bagnall/api"
	"bagnall/devices"
)

func TestNoUpdateP14_1(t *testing.T) {
	wantPlay(t, nil, fresh(0), ok)
	wantPlay(t, updates(), fresh(0), ok)
}

func TestExampleP14_1(t *testing.T) {
	wantCache(t, updates(has(2, 1, "a", "x")), stale(0))
	wantCache(t, updates(has(1, 0, "a", "x"), has(2, 1, "a", "y")), fresh(2, device("a", "y")))
}

// Each kind of update of a device, behind each kind.
func TestOneDeviceP14_1(t *testing.T) {
	x, y, no := has(0, 0, "a", "x"), has(0, 0, "a", "y"), gone(0, 0, "a")
	tests := []struct {
		l    []api.Update
		body string
	}{
		{updates(x), "x"},
		{updates(no), ""},
		{updates(no, no), ""},
		{updates(no, x), "x"},
		{updates(x, x), "x"},
		{updates(x, y), "y"},
		{updates(x, y, x), "x"},
		{updates(x, y, y), "y"},
		{updates(x, no), ""},
		{updates(x, no, no), ""},
		{updates(x, no, x), "x"},
		{updates(x, no, y), "y"},
		{updates(x, no, no, y, y), "y"},
		{updates(x, y, no, x, x, no), ""},
	}
	for _, test := range tests {
		var want []api.Device
		if test.body != "" {
			want = append(want, device("a", test.body))
		}
		wantCache(t, chain(0, test.l...), fresh(len(test.l), want...))

		// Other devices stay as they are.
		others := chain(0, has(0, 0, "0", "p"), has(0, 0, "a-", "q"), has(0, 0, "b", "r"))
		want = sorted(append(want, device("0", "p"), device("a-", "q"), device("b", "r")))
		wantCache(t, append(others, chain(3, test.l...)...), fresh(3+len(test.l), want...))
	}
}

// A device that is removed goes from each place of the list, and one that never
// existed from none.
func TestEachPlaceP14_1(t *testing.T) {
	for n := range 10 {
		for i := range n {
			for j := range n {
				l := append(fill(n), chain(n, gone(0, 0, filled(n)[i].Id), has(0, 0, filled(n)[j].Id, "y"))...)
				want := slices.Delete(filled(n), i, i+1)
				wantPlay(t, l[:n+1], fresh(n+1, want...), ok)
				want = slices.DeleteFunc(want, func(d api.Device) bool { return d.Id == filled(n)[j].Id })
				wantPlay(t, l, fresh(n+2, sorted(append(want, l[n+1].Device))...), ok)
			}
		}
		for _, id := range []string{"never", "a", "d", "d00", "d9", "z", "0"} {
			wantPlay(t, append(fill(n), gone(n+1, n, id)), fresh(n+1, filled(n)...), ok)
		}
	}
}

// The Body beside Gone is neither looked at nor kept.
func TestBodyBesideGoneP14_1(t *testing.T) {
	for _, body := range []string{"", "x", "y", strings.Repeat("x", 20), strings.Repeat("x", 21), strings.Repeat("x", 70000)} {
		removal := api.Update{Device: device("a", body), Gone: true}
		wantPlay(t, chain(0, removal), fresh(1), ok)
		wantPlay(t, chain(0, has(0, 0, "a", "x"), removal), fresh(2), ok)
		wantPlay(t, chain(0, has(0, 0, "a", "x"), has(0, 0, "b", "x"), removal, removal), fresh(4, device("b", "x")), ok)
		wantPlay(t, chain(0, removal, has(0, 0, "b", "x")), fresh(2, device("b", "x")), ok)
	}
}

// Bodies are those of their own device, and are not compared with others.
func TestSameBodyP14_1(t *testing.T) {
	l := chain(0, has(0, 0, "a", "x"), has(0, 0, "b", "x"), has(0, 0, "x", "a"), has(0, 0, "x", "b"), has(0, 0, "a", "b"), has(0, 0, "ab", "x"), gone(0, 0, "x"), has(0, 0, "b", "bx"))
	wantCache(t, l, fresh(8, device("a", "b"), device("ab", "x"), device("b", "bx")))
}

// Streams and Prevs less than, equal to and greater than the Stream 5 of the
// cache, when it is not stale and when it is.
func TestEachStreamP14_1(t *testing.T) {
	start := updates(has(2, 0, "a", "x"), has(5, 2, "b", "x"))
	had := []api.Device{device("a", "x"), device("b", "x")}
	for stream := 1; stream < 12; stream++ {
		for prev := range stream {
			for _, u := range updates(has(stream, prev, "a", "y"), has(stream, prev, "c", "y"), gone(stream, prev, "b"), gone(stream, prev, "c")) {
				l := append(slices.Clone(start), u)
				switch {
				case stream <= 5:
					wantCache(t, l, fresh(5, had...))
				case prev != 5:
					wantCache(t, l, stale(5, had...))
				default:
					want, _ := likePlay(chain(0, has(0, 0, "a", "x"), has(0, 0, "b", "x"), u))
					wantCache(t, l, fresh(stream, want.Devices...))
				}

				// A stale cache stays as it is.
				for _, reason := range updates(has(7, 6, "c", "z"), has(9, 8, "a", "z"), gone(6, 4, "a"), gone(math.MaxInt, 0, "b")) {
					wantCache(t, append(slices.Clone(start), reason, u), stale(5, had...))
					wantCache(t, append(slices.Clone(start), reason, reason, u, u), stale(5, had...))
				}
			}
		}
	}
}

// The same numbers at the start, where Stream is 0, which no update has.
func TestFirstUpdateP14_1(t *testing.T) {
	for _, stream := range []int{1, 2, 3, 100, 101, 1 << 32, 1<<53 + 1, math.MaxInt - 1, math.MaxInt} {
		wantCache(t, updates(has(stream, 0, "a", "x")), fresh(stream, device("a", "x")))
		wantCache(t, updates(gone(stream, 0, "a")), fresh(stream))
		wantCache(t, updates(has(stream, 0, "a", "x"), has(stream, 0, "a", "y")), fresh(stream, device("a", "x")))
		for _, prev := range []int{1, 2, stream / 2, stream - 1} {
			if prev > 0 && prev < stream {
				wantCache(t, updates(has(stream, prev, "a", "x")), stale(0))
				wantCache(t, updates(gone(stream, prev, "a")), stale(0))
				wantCache(t, updates(has(prev, 0, "a", "x"), has(stream, prev, "a", "y")), fresh(stream, device("a", "y")))
				wantCache(t, updates(has(stream, prev, "a", "x"), has(prev, 0, "a", "y")), stale(0))
			}
		}
	}
}

// The same update twice is applied once: the second one is ignored, also where
// its device has changed.
func TestTwiceP14_1(t *testing.T) {
	l := chain(0, has(0, 0, "a", "x"), has(0, 0, "b", "x"), has(0, 0, "a", "y"), gone(0, 0, "b"), has(0, 0, "b", "z"), gone(0, 0, "c"))
	want, _ := likePlay(l)
	for i := range l {
		for j := i; j < len(l); j++ {
			wantCache(t, slices.Insert(slices.Clone(l), j+1, l[i]), want)
			wantCache(t, slices.Insert(slices.Clone(l), j+1, l[:i+1]...), want)
		}

		// Another one with the numbers of an earlier one is ignored, too.
		for _, u := range updates(has(l[i].Stream, l[i].Prev, "a", "w"), gone(l[i].Stream, l[i].Prev, "a")) {
			wantCache(t, append(slices.Clone(l), u), want)
			early, _ := likePlay(l[:i+1])
			wantCache(t, append(slices.Clone(l[:i+1]), u), early)
		}
	}
}

// An update that is left out makes the cache stale with the one behind it, and
// nothing that comes then changes it, also not the one that was left out.
func TestLeftOutP14_1(t *testing.T) {
	l := append(fill(4), chain(4, gone(0, 0, "d1"), has(0, 0, "d2", "y"), has(0, 0, "d1", "y"))...)
	for i := range l {
		want, _ := likePlay(l[:i])
		rest := slices.Delete(slices.Clone(l), i, i+1)
		wantCache(t, rest[:i], want)
		if i == len(rest) {
			continue
		}
		want.Stale = true
		wantCache(t, rest[:i+1], want)
		wantCache(t, rest, want)
		wantCache(t, append(rest, l[i]), want)
		wantCache(t, join(rest, l[i:]), want)
		wantCache(t, join(rest, l), want)
		wantCache(t, append(rest, chain(7, has(0, 0, "d1", "z"), gone(0, 0, "d0"))...), want)

		// Two that are swapped are as one that is left out.
		wantCache(t, slices.Insert(slices.Clone(rest), i+1, l[i]), want)
	}
}

// An update may follow on the last one with any greater Stream.
func TestGapsP14_1(t *testing.T) {
	l := updates(has(3, 0, "a", "x"), has(10, 3, "b", "x"), has(11, 10, "a", "y"), gone(1<<40, 11, "b"), has(math.MaxInt, 1<<40, "c", "x"))
	wantCache(t, l, fresh(math.MaxInt, device("a", "y"), device("c", "x")))
	for _, prev := range []int{0, 1, 1 << 40, math.MaxInt - 1} {
		wantCache(t, append(l, has(math.MaxInt, prev, "z", "x")), fresh(math.MaxInt, device("a", "y"), device("c", "x")))
	}
	for i := range l {
		own := slices.Clone(l)
		for _, prev := range []int{l[i].Prev + 1, l[i].Prev - 1} {
			own[i].Prev = prev
			if prev >= 0 && prev < own[i].Stream {
				want, _ := likePlay(l[:i])
				wantCache(t, own, stale(want.Stream, want.Devices...))
			}
		}
	}
}

// Updates of package devices lead to its list.
func TestLikeDevicesP14_1(t *testing.T) {
	r := rand.New(rand.NewSource(141))
	for range 500 {
		var l []api.Update
		for range r.Intn(101) {
			l = append(l, api.Update{Device: device(string(rune('a'+r.Intn(6))), string(rune('x'+r.Intn(3)))), Gone: r.Intn(3) == 0})
		}
		follows, want, e := devices.Play(l)
		if e != ok {
			t.Fatalf("devices.Play(%v): %d", l, e)
		}
		wantPlay(t, follows, want, ok)
	}
}

// The list is sorted by the bytes of the Ids.
func TestOrderOfListP14_1(t *testing.T) {
	groups := [][]string{
		{"a", "aa", "aaa", "ab", "b", "ba"},
		{"-", ".", "/", "0", "9", "="},
		{"=", "_", "a", "z", "za", "zz"},
		{"a-", "a.", "a/", "a0", "a=", "a_"},
		{"-a", "/a", "0a", "9", "_", "_a"},
		{"a", "a-", "a.b", "a0", "aa", "b-"},
		{"10", "11", "2", "9", "a1", "a10"},
	}
	for _, group := range groups {
		var inOrder []api.Device
		for i, id := range group {
			inOrder = append(inOrder, device(id, "x"+strconv.Itoa(9-i)))
		}
		for order := range permutations(6) {
			var l []api.Update
			for _, i := range order {
				l = append(l, api.Update{Device: inOrder[i]})
			}
			wantPlay(t, chain(0, l...), fresh(6, inOrder...), ok)

			// Also after two were removed, and one came back.
			l = append(l, gone(0, 0, group[1]), gone(0, 0, group[4]), has(0, 0, group[1], "y"))
			wantPlay(t, chain(0, l...), fresh(9, inOrder[0], device(group[1], "y"), inOrder[2], inOrder[3], inOrder[5]), ok)
		}
	}
}

// permutations is all orders of the numbers below n.
func permutations(n int) func(yield func([]int) bool) {
	return func(yield func([]int) bool) {
		var extend func(order []int) bool
		extend = func(order []int) bool {
			if len(order) == n {
				return yield(order)
			}
			for i := range n {
				if !slices.Contains(order, i) && !extend(append(slices.Clone(order), i)) {
					return false
				}
			}
			return true
		}
		extend(nil)
	}
}

// A cache may have more devices than an owner has: there is no error for that.
func TestManyDevicesP14_1(t *testing.T) {
	for n := range 101 {
		wantCache(t, fill(n), fresh(n, sorted(filled(n))...))
	}
	backward := slices.Clone(fill(100))
	slices.Reverse(backward)
	wantPlay(t, chain(0, backward...), fresh(100, sorted(filled(100))...), ok)
	l := fill(50)
	for i := range 50 {
		l = append(l, gone(51+i, 50+i, "d"+strconv.Itoa(i)))
		wantPlay(t, l, fresh(51+i, sorted(filled(50)[i+1:])...), ok)
	}
}

// All short sequences of some updates.
func TestAllSequencesP14_1_P14_2(t *testing.T) {
	choice := updates(has(1, 0, "a", "x"), has(2, 1, "a", "y"), gone(2, 1, "a"), has(2, 0, "b", "x"), gone(3, 2, "b"), has(3, 2, "ab", "x"), has(3, 1, "a", "z"), has(2, 2, "a", "x"), has(3, 2, "B", "x"))
	var extend func(l []api.Update)
	extend = func(l []api.Update) {
		wantLike(t, l)
		if len(l) == 5 || likeCheck(l) != ok {
			return
		}
		for _, u := range choice {
			extend(append(l, u))
		}
	}
	extend(make([]api.Update, 0, 5))
}

// randomUpdates is a list of n updates behind the Stream first, few of which
// are left out, come late or have errors.
func randomUpdates(r *rand.Rand, first, n int) []api.Update {
	ids := []string{"a", "ab", "b", "-", "0", "a.", "_", "abc", "c"}
	l := make([]api.Update, n)
	for i := range l {
		if i > 0 && r.Intn(10) == 0 {
			l[i] = l[r.Intn(i)]
			continue
		}
		l[i] = api.Update{Stream: first + 1, Prev: first, Device: device(ids[r.Intn(len(ids))], strings.Repeat("x", 1+r.Intn(3))), Gone: r.Intn(4) == 0}
		first++
		switch r.Intn(1000) {
		case 0, 1, 2, 3, 4, 5:
			first += 1 + r.Intn(3)
		case 6:
			l[i].Stream += r.Intn(3)
			first = l[i].Stream
		case 7:
			l[i].Device.Body = strings.Repeat("y", r.Intn(25))
		case 8:
			l[i].Device.Id = strings.Repeat("a", r.Intn(25))
		case 9:
			l[i].Prev = r.Intn(first+4) - 2
		case 10:
			l[i].Stream = r.Intn(first + 4)
		case 11:
			l[i].Device.Id += "A"
		}
	}
	return l
}

func TestRandomP14_1(t *testing.T) {
	r := rand.New(rand.NewSource(14))
	seen := map[api.Errno]int{}
	isStale, long := 0, 0
	for range 5000 {
		l := randomUpdates(r, 0, r.Intn(102))
		wantLike(t, l)
		final, e := likePlay(l)
		seen[e]++
		if final.Stale {
			isStale++
		} else if final.Stream > 40 {
			long++
		}
	}
	for _, code := range []api.Errno{ok, form, rang} {
		if seen[code] < 100 {
			t.Errorf("the code %d was seen %d times only", code, seen[code])
		}
	}
	if seen[size] < 10 || isStale < 100 || long < 100 {
		t.Errorf("%d lists of more than MaxActs updates, %d stale and %d long ones were seen only", seen[size], isStale, long)
	}
}

func FuzzPlayP14_1(f *testing.F) {
	f.Add([]byte{1, 2, 3, 1, 2, 3, 4, 5}, "abc", "x", 0)
	f.Add([]byte{1, 18, 35, 36, 2, 0, 9}, "-a", "xxxxxxxxxxxxxxxxxxxxx", 0)
	f.Add([]byte{1, 2, 129, 130, 131}, "A", "", -1)
	f.Fuzz(func(t *testing.T, b []byte, id, body string, first int) {
		wantLike(t, fuzzed(b, id, body, first))
	})
}

// fuzzed is an update for each of the bytes, which follows on the Stream that
// the byte names.
func fuzzed(b []byte, id, body string, first int) []api.Update {
	var l []api.Update
	for i, c := range b {
		d := device(id+strings.Repeat("a", int(c)/16%4), body+strings.Repeat("b", i%4))
		l = append(l, api.Update{Stream: first + int(c)%16 + 1, Prev: first + int(c)%16, Device: d, Gone: c > 128})
	}
	return l
}

func overlap(a, b string) bool {
	if a == "" || b == "" {
		return false
	}
	p, q := uintptr(unsafe.Pointer(unsafe.StringData(a))), uintptr(unsafe.Pointer(unsafe.StringData(b)))
	return p < q+uintptr(len(b)) && q < p+uintptr(len(a))
}

// wantOwnStrings says that the devices share no memory with what was taken
// before, and adds theirs to it.
func wantOwnStrings(t *testing.T, taken *[]string, devices ...api.Device) {
	t.Helper()
	for _, d := range devices {
		for _, s := range *taken {
			if overlap(d.Id, s) || overlap(d.Body, s) {
				t.Errorf("%q has memory of %q", d, s)
			}
		}
		*taken = append(*taken, d.Id, d.Body)
	}
}

func devicesOf(l []api.Update) []api.Device {
	var all []api.Device
	for _, u := range l {
		all = append(all, u.Device)
	}
	return all
}

// spoil changes a list and its spare capacity.
func spoil[T any](l []T, mark T) {
	whole := l[:cap(l)]
	for i := range whole {
		whole[i] = mark
	}
}

var (
	spoiledDevice = device("spoiled", "spoiled")
	spoiledUpdate = api.Update{Stream: 99, Prev: 98, Device: spoiledDevice, Gone: true}
)

// Results share no memory with arguments or with those of other calls, also not
// strings and not spare capacity.
func TestMemoryP14_1(t *testing.T) {
	l := chain(0, has(0, 0, "aaaa", "xxxx"), has(0, 0, "bbbb", "yyyy"), gone(0, 0, "aaaa"), has(0, 0, "bbbb", "zzzz"), has(0, 0, "cccc", "wwww"), has(0, 0, "aaaa", "vvvv"), has(0, 0, "dddd", "dddd"))
	l = append(l, gone(8, 7, "cccc"), has(8, 7, "eeee", "eeee"), has(12, 11, "ffff", "ffff"))
	l[4].Device.Id = l[5].Device.Body // the same memory twice
	for n := range len(l) + 1 {
		some := l[:n:n]
		was := slices.Clone(some)
		want, _ := likePlay(some)
		var taken []string
		for _, d := range devicesOf(some) {
			taken = append(taken, d.Id, d.Body)
		}
		one, _ := Play(some)
		other, _ := Play(some)
		wantOwnStrings(t, &taken, one.Devices...)
		wantOwnStrings(t, &taken, other.Devices...)
		spoil(one.Devices, spoiledDevice)
		if !isSame(other, want) || !slices.Equal(some, was) {
			t.Errorf("a result shares memory with another one or with an argument: they became %v and %v", other, some)
		}
	}
}

// What a call has taken is not retained: the updates may be changed, and the
// results stay.
func TestUpdatesAreNotRetainedP14_1(t *testing.T) {
	l := chain(0, has(0, 0, "a", "x"), has(0, 0, "b", "y"), gone(0, 0, "a"))
	final, _ := Play(l)
	spoil(l, spoiledUpdate)
	if !isSame(final, fresh(3, device("b", "y"))) {
		t.Errorf("the result became %v", final)
	}
}

// Nothing is kept from call to call, also not among calls at the same time.
func TestNothingIsKeptP14_1_P14_2(t *testing.T) {
	all := append(before(), updates(has(1, 0, "A", "x")), fill(101))
	var workers sync.WaitGroup
	for range 8 {
		workers.Go(func() {
			for i := range 200 {
				wantLike(t, all[i%len(all)])
				wantLikeSettle(t, all[i%len(all)], fresh(4, device("b", "x")), all[i*7%len(all)])
			}
		})
	}
	workers.Wait()
}
