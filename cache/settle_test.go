package cache

import (
	"math"
	"math/rand"
	"slices"
	"strconv"
	"strings"
	"testing"

	"bagnall/api"
)

func TestExampleP14_2(t *testing.T) {
	l := chain(0, has(0, 0, "a", "x"), has(0, 0, "b", "x"))
	wantSettle(t, l, fresh(1, device("a", "x")), nil, fresh(2, device("a", "x"), device("b", "x")), ok)
	wantSettle(t, nil, api.Listing{}, nil, fresh(0), ok)
	wantSettle(t, updates(), fresh(0, []api.Device{}...), updates(), fresh(0), ok)
}

// startOf5 leads to a cache with the Stream 5 and the devices a and b.
func startOf5(isStale bool) []api.Update {
	l := updates(has(3, 0, "a", "x"), has(5, 3, "b", "x"))
	if isStale {
		l = append(l, has(9, 8, "c", "x"))
	}
	return l
}

// Lists that are Stale and that are not, with a Stream less than, equal to and
// greater than 5, in caches with the Stream 5 that are stale and that are not.
func TestEachListP14_2(t *testing.T) {
	had := []api.Device{device("a", "x"), device("b", "x")}
	lists := [][]api.Device{nil, {device("b", "y")}, {device("a", "x")}, had, {device("0", "z"), device("b", "x"), device("c", "x")}, filled(9)}
	for _, isStale := range []bool{false, true} {
		for _, stream := range []int{0, 1, 3, 4, 5, 6, 8, 9, 10, 100, 1 << 40, math.MaxInt} {
			for _, devices := range lists {
				kept := api.Listing{Stream: 5, Stale: isStale, Devices: had}
				wantSettle(t, startOf5(isStale), stale(stream, devices...), nil, kept, ok)
				if stream < 5 {
					wantSettle(t, startOf5(isStale), fresh(stream, devices...), nil, kept, ok)
				} else {
					wantSettle(t, startOf5(isStale), fresh(stream, devices...), nil, fresh(stream, devices...), ok)
				}
			}
		}
	}
}

// An initial cache adopts each list, also one with the Stream 0, and a stale one
// with the Stream 0 does, too.
func TestFirstListP14_2(t *testing.T) {
	for _, devices := range [][]api.Device{nil, filled(1), filled(9)} {
		for _, stream := range []int{0, 1, 2, 1 << 40, math.MaxInt} {
			for _, l := range [][]api.Update{nil, updates(has(2, 1, "z", "x")), updates(gone(math.MaxInt, 1, "z"))} {
				want, _ := likePlay(l)
				wantSettle(t, l, fresh(stream, devices...), nil, fresh(stream, devices...), ok)
				wantSettle(t, l, stale(stream, devices...), nil, want, ok)
			}
		}
	}
}

// The updates behind a list that was adopted: the list has them already, they
// follow on it, or one is left out.
func TestMoreP14_2(t *testing.T) {
	had := []api.Device{device("b", "w"), device("q", "w")}
	for _, isStale := range []bool{false, true} {
		for _, stream := range []int{5, 6, 9, 20} {
			l, whole := startOf5(isStale), fresh(stream, had...)
			wantSettle(t, l, whole, updates(has(stream+1, stream, "b", "y")), fresh(stream+1, device("b", "y"), had[1]), ok)
			wantSettle(t, l, whole, updates(has(stream+4, stream, "a", "y")), fresh(stream+4, device("a", "y"), had[0], had[1]), ok)
			wantSettle(t, l, whole, updates(gone(stream+1, stream, "b"), gone(stream+2, stream+1, "q")), fresh(stream+2), ok)
			wantSettle(t, l, whole, updates(gone(stream+1, stream, "never")), fresh(stream+1, had...), ok)
			for early := 1; early <= stream; early++ {
				wantSettle(t, l, whole, updates(has(early, early-1, "b", "y"), gone(early, 0, "q")), whole, ok)
				wantSettle(t, l, whole, updates(has(early, 0, "b", "y"), gone(stream+1, stream, "q")), fresh(stream+1, had[0]), ok)
				wantSettle(t, l, whole, updates(has(stream+1, stream-early, "b", "y")), stale(stream, had...), ok)
			}
			wantSettle(t, l, whole, updates(has(stream+2, stream+1, "b", "y")), stale(stream, had...), ok)
			wantSettle(t, l, whole, updates(has(stream+2, stream+1, "b", "y"), has(stream+1, stream, "b", "y")), stale(stream, had...), ok)
			wantSettle(t, l, whole, updates(has(math.MaxInt, stream+9, "b", "y"), gone(stream+1, stream, "q")), stale(stream, had...), ok)
		}
	}
}

// The updates behind a list that was not adopted: they follow on those ahead of
// it.
func TestMoreWithoutAdoptionP14_2(t *testing.T) {
	had := []api.Device{device("a", "x"), device("b", "x")}
	for _, whole := range []api.Listing{stale(5, device("q", "w")), stale(0), stale(9, filled(3)...), fresh(4, device("q", "w")), fresh(0), fresh(3, device("a", "x")), stale(math.MaxInt)} {
		l := startOf5(false)
		wantSettle(t, l, whole, updates(has(6, 5, "a", "y")), fresh(6, device("a", "y"), had[1]), ok)
		wantSettle(t, l, whole, updates(has(4, 3, "a", "y"), has(5, 3, "c", "y"), gone(9, 5, "b")), fresh(9, had[0]), ok)
		wantSettle(t, l, whole, updates(has(10, 9, "a", "y")), stale(5, had...), ok)
		wantSettle(t, l, whole, updates(has(6, 4, "a", "y"), has(6, 5, "a", "y")), stale(5, had...), ok)
		for _, more := range [][]api.Update{nil, updates(has(6, 5, "a", "y")), updates(has(10, 9, "a", "y")), updates(has(4, 3, "a", "y"))} {
			wantSettle(t, startOf5(true), whole, more, stale(5, had...), ok)
		}
	}
}

// The stale cache adopts the list that has what was left out, and all updates
// may come again.
func TestQueryP14_2(t *testing.T) {
	l := append(fill(4), chain(4, gone(0, 0, "d1"), has(0, 0, "d2", "y"), has(0, 0, "d1", "y"), gone(0, 0, "d0"))...)
	final, _ := likePlay(l)
	for i := range l {
		rest := slices.Delete(slices.Clone(l), i, i+1)
		for n := range len(l) + 1 {
			whole, _ := likePlay(l[:n])
			if n > i {
				wantSettle(t, rest, whole, l, final, ok)
				wantSettle(t, rest, whole, l[i:], final, ok)
				wantSettle(t, rest[:i], whole, rest[i:], final, ok)
			}
			wantSettle(t, l, whole, nil, final, ok)
			wantSettle(t, nil, whole, l, final, ok)
			wantSettle(t, nil, whole, l[n:], final, ok)
			wantLikeSettle(t, rest, whole, rest)
			whole.Stale = true
			wantLikeSettle(t, rest, whole, l)
			wantLikeSettle(t, l, whole, rest)
		}
	}
}

// wantWholeError says that a complete list has an error, whatever the Stream,
// Stale and the updates on either side are.
func wantWholeError(t *testing.T, devices []api.Device) {
	t.Helper()
	for _, stream := range []int{0, 1, 3, 9, math.MaxInt, -1, math.MinInt} {
		for _, l := range before() {
			wantSettle(t, l, fresh(stream, devices...), nil, api.Listing{}, form)
			wantSettle(t, l, stale(stream, devices...), chain(3, has(0, 0, "a", "x")), api.Listing{}, form)
		}
	}
}

// wantWhole says whether a complete list may have the device, at each place.
func wantWhole(t *testing.T, d api.Device, isValid bool) {
	t.Helper()
	first, last := device("-", "w"), device("zzz", "w")
	lists := [][]api.Device{{d}}
	if d.Id > first.Id && d.Id < last.Id {
		lists = append(lists, []api.Device{first, d}, []api.Device{d, last}, []api.Device{first, d, last})
	}
	for _, devices := range lists {
		if !isValid {
			wantSettle(t, nil, fresh(0, devices...), nil, api.Listing{}, form)
			wantSettle(t, fill(3), fresh(0, devices...), nil, api.Listing{}, form)
			wantSettle(t, fill(3), stale(7, devices...), nil, api.Listing{}, form)
			wantSettle(t, nil, fresh(-1, devices...), nil, api.Listing{}, form)
			continue
		}
		wantSettle(t, nil, fresh(0, devices...), nil, fresh(0, devices...), ok)
		wantSettle(t, fill(3), fresh(7, devices...), nil, fresh(7, devices...), ok)
		wantSettle(t, fill(3), fresh(2, devices...), nil, fresh(3, filled(3)...), ok)
		wantSettle(t, fill(3), stale(7, devices...), nil, fresh(3, filled(3)...), ok)
		wantSettle(t, nil, fresh(-1, devices...), nil, api.Listing{}, rang)
	}
}

// The devices of the list are valid as with Gone false: each has a Body.
func TestDevicesOfListP14_2(t *testing.T) {
	for _, d := range []api.Device{device("c", ""), device("C", "x"), device("", "x"), device("", ""), device("c c", "x"), device("c", strings.Repeat("x", 21)), device(strings.Repeat("c", 21), "x")} {
		wantWholeError(t, []api.Device{d})
		wantWholeError(t, []api.Device{device("a", "x"), d})
		wantWholeError(t, []api.Device{d, device("d", "x")})
		wantWholeError(t, []api.Device{device("a", "x"), d, device("d", "x")})
		wantWholeError(t, append(filled(9), d))
	}
	long := device(strings.Repeat("c", 20), strings.Repeat("x", 20))
	wantSettle(t, nil, fresh(1, long), nil, fresh(1, long), ok)
}

// The Ids are strictly increasing: none is there twice, and none is out of
// order.
func TestOrderOfDevicesP14_2(t *testing.T) {
	ids := []string{"-", "-a", ".", "/", "0", "9", "=", "_", "a", "a-", "a0", "aa", "ab", "b", "z"}
	for i, a := range ids {
		for j, b := range ids {
			two := []api.Device{device(a, "x"), device(b, "y")}
			if i < j {
				wantSettle(t, nil, fresh(3, two...), nil, fresh(3, two...), ok)
				wantSettle(t, fill(4), fresh(3, two...), nil, fresh(4, filled(4)...), ok)
				continue
			}
			wantWholeError(t, two)
			wantWholeError(t, []api.Device{device(a, "x"), device(b, "x")})
			wantWholeError(t, append(two, device("zz", "x")))
			if a > "," {
				wantWholeError(t, []api.Device{device(",", "x"), two[0], two[1]})
			}
		}
	}
	for order := range permutations(4) {
		var devices []api.Device
		for _, i := range order {
			devices = append(devices, filled(4)[i])
		}
		if slices.IsSorted(order) {
			wantSettle(t, nil, fresh(3, devices...), nil, fresh(3, devices...), ok)
		} else {
			wantWholeError(t, devices)
		}
	}

	// At each place of a long list.
	for i := range 50 {
		devices := sorted(filled(50))
		wantSettle(t, nil, fresh(3, devices...), nil, fresh(3, devices...), ok)
		wantWholeError(t, slices.Insert(slices.Clone(devices), i, devices[i]))
		if i > 0 {
			devices[i], devices[i-1] = devices[i-1], devices[i]
			wantWholeError(t, devices)
		}
	}
}

func TestStreamOfListP14_2(t *testing.T) {
	for _, stream := range []int{-1, -2, -5, -100, -1 << 32, math.MinInt, math.MinInt + 1} {
		for _, l := range before() {
			for _, more := range before() {
				for _, devices := range [][]api.Device{nil, filled(2)} {
					wantSettle(t, l, fresh(stream, devices...), more, api.Listing{}, rang)
					wantSettle(t, l, stale(stream, devices...), more, api.Listing{}, rang)
				}
			}
		}
	}
}

// The order of the errors: those of l, those of more, and those of the list, the
// form of its devices ahead of its Stream.
func TestOrderOfErrorsP14_2(t *testing.T) {
	valid := [][]api.Update{nil, fill(2), updates(has(3, 2, "a", "x")), fill(100)}
	formed, numbered := bad()
	codes := []api.Errno{size, form, rang}
	wrong := [][]api.Update{fill(101), updates(formed[0]), updates(numbered[0])}
	lists := []api.Listing{fresh(1, device("A", "x")), stale(1, device("b", "x"), device("a", "x")), fresh(-1, device("a", "")), fresh(-1), stale(-1, device("a", "x")), fresh(0), stale(9, device("a", "x"))}
	wants := []api.Errno{form, form, form, rang, rang, ok, ok}
	for k, whole := range lists {
		for i, l := range wrong {
			for _, more := range join(valid, wrong) {
				wantSettle(t, l, whole, more, api.Listing{}, codes[i])
			}
			for _, before := range valid {
				wantSettle(t, before, whole, l, api.Listing{}, codes[i])
			}
		}
		for _, l := range valid {
			for _, more := range valid {
				if wants[k] != ok {
					wantSettle(t, l, whole, more, api.Listing{}, wants[k])
				}
			}
		}
	}
	for _, u := range formed {
		for _, v := range numbered {
			wantSettle(t, updates(u), fresh(0), updates(v), api.Listing{}, form)
			wantSettle(t, updates(v), fresh(0), updates(u), api.Listing{}, rang)
			wantSettle(t, updates(u), fresh(0), fill(101), api.Listing{}, form)
			wantSettle(t, updates(v), fresh(0), fill(101), api.Listing{}, rang)
			wantSettle(t, nil, fresh(-1, device("A", "x")), updates(v), api.Listing{}, rang)
			wantSettle(t, nil, fresh(-1), updates(u), api.Listing{}, form)
		}
	}
}

// The updates of l and of more are counted for themselves, and the devices of
// the list have no limit.
func TestLongListsP14_2(t *testing.T) {
	for _, n := range []int{6, 7, 60, 61, 100, 101, 1000, 100000} {
		devices := sorted(filled(n))
		wantSettle(t, fill(100), fresh(100, devices...), nil, fresh(100, devices...), ok)
		wantSettle(t, nil, fresh(3, devices...), updates(has(4, 3, "-", "x"), gone(5, 4, devices[n-1].Id)), fresh(5, join([]api.Device{device("-", "x")}, devices[:n-1])...), ok)
		wantSettle(t, fill(4), fresh(3, devices...), nil, fresh(4, filled(4)...), ok)
		devices[n-1].Body = ""
		wantSettle(t, fill(4), fresh(3, devices...), nil, api.Listing{}, form)
	}
}

// What the cache had before the list is gone with it, and what it adopts is
// sorted with what comes behind it.
func TestNothingRemainsP14_2(t *testing.T) {
	for i := range 9 {
		whole := fresh(20, filled(9)[i:]...)
		wantSettle(t, fill(9), whole, nil, whole, ok)
		wantSettle(t, fill(9), whole, updates(gone(21, 20, "d8")), fresh(21, filled(9)[i:8]...), ok)
		wantSettle(t, fill(9), whole, updates(has(21, 20, "d0", "x")), fresh(21, sorted(append(filled(9)[max(i, 1):], device("d0", "x")))...), ok)
		wantSettle(t, fill(9), fresh(20), fill(9), fresh(20), ok)
		wantSettle(t, nil, fresh(0, filled(9)[i:]...), fill(9), fresh(9, filled(9)...), ok)
	}
}

// All lists of some kinds between all short sequences of some updates.
func TestAllSequencesP14_2(t *testing.T) {
	choice := updates(has(1, 0, "a", "x"), has(2, 1, "b", "y"), gone(2, 1, "a"), has(3, 2, "a", "z"), gone(3, 1, "b"))
	parts := [][]api.Update{nil}
	for first := range choice {
		parts = append(parts, choice[first:first+1])
		for _, second := range choice {
			parts = append(parts, updates(choice[first], second))
		}
	}
	devices := [][]api.Device{nil, {device("a", "v")}, {device("b", "v")}, {device("a", "v"), device("b", "v")}}
	for _, l := range parts {
		for _, more := range parts {
			for stream := range 4 {
				for _, some := range devices {
					wantLikeSettle(t, l, fresh(stream, some...), more)
					wantLikeSettle(t, l, stale(stream, some...), more)
				}
			}
		}
	}
}

// randomList is a complete list, with few errors.
func randomList(r *rand.Rand, stream int) api.Listing {
	var devices []api.Device
	for i := range r.Intn(10) {
		devices = append(devices, device("a"+strconv.Itoa(i), strings.Repeat("x", 1+r.Intn(3))))
	}
	for i := range devices {
		switch r.Intn(200) {
		case 0:
			devices[i] = devices[r.Intn(len(devices))]
		case 1:
			devices[i].Body = strings.Repeat("x", r.Intn(25))
		case 2:
			devices[i].Id += strings.Repeat("a", r.Intn(25))
		case 3:
			devices[i].Id += "A"
		}
	}
	return api.Listing{Stream: stream, Stale: r.Intn(4) == 0, Devices: devices}
}

func TestRandomP14_2(t *testing.T) {
	r := rand.New(rand.NewSource(142))
	seen := map[api.Errno]int{}
	adopted, kept, wasStale := 0, 0, 0
	for range 8000 {
		l := randomUpdates(r, 0, r.Intn(70))
		start, _ := likePlay(l)
		whole := randomList(r, start.Stream+r.Intn(12)-4)
		more := randomUpdates(r, max(0, whole.Stream-r.Intn(4)), r.Intn(30))
		wantLikeSettle(t, l, whole, more)
		final, e := likeSettle(l, whole, more)
		seen[e]++
		isAdopted := e == ok && !whole.Stale && whole.Stream >= start.Stream
		switch {
		case isAdopted && start.Stale:
			wasStale++
		case isAdopted && final.Stream > whole.Stream:
			adopted++
		case e == ok && final.Stream > start.Stream:
			kept++
		}
	}
	for _, code := range []api.Errno{ok, form, rang} {
		if seen[code] < 100 {
			t.Errorf("the code %d was seen %d times only", code, seen[code])
		}
	}
	if adopted < 100 || kept < 100 || wasStale < 100 {
		t.Errorf("%d lists that were adopted, %d that were not and %d in stale caches were seen only", adopted, kept, wasStale)
	}
}

func FuzzSettleP14_2(f *testing.F) {
	f.Add([]byte{0, 1, 2, 3}, []byte{17, 2, 3}, []byte{4, 5}, "a", "x", 4, false)
	f.Add([]byte{0, 2, 3}, []byte{1, 33}, []byte{4, 5, 5, 6}, "b", "y", 2, false)
	f.Add([]byte{0, 2, 3}, []byte{}, []byte{4, 5, 9}, "-", "yy", 4, true)
	f.Fuzz(func(t *testing.T, b, c, d []byte, id, body string, stream int, isStale bool) {
		whole := api.Listing{Stream: stream, Stale: isStale, Devices: devicesOf(fuzzed(c, id, body, 0))}
		wantLikeSettle(t, fuzzed(b, id, body, 0), whole, fuzzed(d, id, body, max(0, min(stream, 1<<50)-4)))
	})
}

// The result shares no memory with what was passed or with another result, also
// where the list was adopted.
func TestMemoryP14_2(t *testing.T) {
	l := chain(0, has(0, 0, "aaaa", "xxxx"), has(0, 0, "bbbb", "yyyy"), gone(0, 0, "aaaa"))
	devices := []api.Device{device("aaaa", "vvvv"), device("cccc", "cccc"), device("dddd", "uuuu")}
	devices[1].Body = devices[1].Id // the same memory twice
	for _, whole := range []api.Listing{fresh(3, devices...), fresh(4, devices...), stale(4, devices...), fresh(2, devices...)} {
		for _, more := range [][]api.Update{nil, chain(3, has(0, 0, "bbbb", "zzzz"), has(0, 0, "dddd", "tttt")), chain(4, gone(0, 0, "aaaa")), updates(gone(9, 3, "aaaa"))} {
			wasL, wasMore, was := slices.Clone(l), slices.Clone(more), slices.Clone(devices)
			want, _ := likeSettle(l, whole, more)
			var taken []string
			for _, d := range join(devicesOf(l), devices, devicesOf(more)) {
				taken = append(taken, d.Id, d.Body)
			}
			one, _ := Settle(l, whole, more)
			other, _ := Settle(l, whole, more)
			wantOwnStrings(t, &taken, one.Devices...)
			wantOwnStrings(t, &taken, other.Devices...)
			spoil(one.Devices, spoiledDevice)
			if !isSame(other, want) || !slices.Equal(l, wasL) || !slices.Equal(more, wasMore) || !slices.Equal(devices, was) {
				t.Errorf("a result shares memory with another one or with an argument: they became %v, %v, %v and %v", other, l, devices, more)
			}
		}
	}
}

// What a call has taken is not retained.
func TestArgumentsAreNotRetainedP14_2(t *testing.T) {
	l, more := updates(has(1, 0, "a", "x")), updates(has(4, 3, "c", "y"))
	devices := []api.Device{device("a", "x"), device("b", "z")}
	final, _ := Settle(l, fresh(3, devices...), more)
	spoil(l, spoiledUpdate)
	spoil(more, spoiledUpdate)
	spoil(devices, spoiledDevice)
	if !isSame(final, fresh(4, device("a", "x"), device("b", "z"), device("c", "y"))) {
		t.Errorf("the result became %v", final)
	}
}
