package devices

import (
	"math"
	"slices"
	"testing"

	"bagnall/api"
)

func TestExampleP13_2(t *testing.T) {
	l := changes(has("a", "x"), has("b", "x"), gone("a"))
	wantSince(t, l, 3, nil, ok)
	wantSince(t, nil, 0, nil, ok)
	wantSince(t, changes(), 0, nil, ok)
	wantSince(t, changes(gone("a")), 0, nil, ok)
}

// Each position, of updates some of which have a later one of their device.
func TestEachPositionP13_2(t *testing.T) {
	l := changes(has("a", "x"), has("c", "x"), has("a", "y"), gone("c"), has("b", "x"), has("a", "x"), gone("b"), has("b", "y"), has("d", "x"))
	u := numbered(l...)
	wants := [][]api.Update{
		changes(u[3], u[5], u[7], u[8]),
		changes(u[3], u[5], u[7], u[8]),
		changes(u[3], u[5], u[7], u[8]),
		changes(u[3], u[5], u[7], u[8]),
		changes(u[5], u[7], u[8]),
		changes(u[5], u[7], u[8]),
		changes(u[7], u[8]),
		changes(u[7], u[8]),
		changes(u[8]),
		nil,
	}
	for at, want := range wants {
		wantSince(t, l, at, want, ok)
	}
	for _, at := range []int{-1, -2, -9, -10, 10, 11, 100, 255, 256, 1 << 32, 1<<32 + 1, -1 << 32, math.MaxInt, math.MinInt} {
		wantSince(t, l, at, nil, rang)
	}
}

// The updates are in the order of their Streams, not of their Ids.
func TestOrderP13_2(t *testing.T) {
	for order := range permutations(6) {
		var l []api.Update
		for _, i := range order {
			l = append(l, fill(6)[i])
		}
		for at := range 7 {
			wantSince(t, l, at, numbered(l...)[at:], ok)
		}
		l = append(l, gone("d2"), has("d4", "y"))
		want := slices.DeleteFunc(numbered(l...), func(u api.Update) bool {
			return u.Stream < 7 && (u.Device.Id == "d2" || u.Device.Id == "d4")
		})
		wantSince(t, l, 0, want, ok)
		wantSince(t, l, 6, want[4:], ok)
		wantSince(t, l, 7, want[5:], ok)
	}
}

// Changes without an effect are no updates: the positions are those of the
// updates.
func TestNoEffectP13_2(t *testing.T) {
	a, b := has("a", "x"), has("b", "x")
	l := changes(gone("a"), a, a, gone("c"), b, a, gone("b"), gone("b"), a)
	u := numbered(a, b, gone("b"))
	wantSince(t, l, 0, changes(u[0], u[2]), ok)
	wantSince(t, l, 1, changes(u[2]), ok)
	wantSince(t, l, 2, changes(u[2]), ok)
	wantSince(t, l, 3, nil, ok)
	for at := 4; at < 12; at++ {
		wantSince(t, l, at, nil, rang)
	}
	wantSince(t, slices.Repeat(changes(a), 100), 0, u[:1], ok)
	wantSince(t, slices.Repeat(changes(a), 100), 1, nil, ok)
	wantSince(t, slices.Repeat(changes(a), 100), 2, nil, rang)
	wantSince(t, slices.Repeat(changes(gone("a")), 100), 0, nil, ok)
	wantSince(t, slices.Repeat(changes(gone("a")), 100), 1, nil, rang)
}

// A device that was removed has a last update, too, without the Body.
func TestRemovedP13_2(t *testing.T) {
	for _, body := range []string{"", "x", "y"} {
		l := changes(has("a", "x"), has("b", "x"), api.Update{Stream: 8, Prev: 8, Device: device("a", body), Gone: true})
		u := numbered(has("a", "x"), has("b", "x"), gone("a"))
		wantSince(t, l, 0, u[1:], ok)
		wantSince(t, l, 1, u[1:], ok)
		wantSince(t, l, 2, u[2:], ok)
		l, u = append(l, has("a", "x")), append(u, api.Update{Stream: 4, Prev: 3, Device: device("a", "x")})
		wantSince(t, l, 0, changes(u[1], u[3]), ok)
		wantSince(t, l, 3, changes(u[3]), ok)
	}
}

// Ids are told apart byte by byte.
func TestSimilarIdsP13_2(t *testing.T) {
	l := changes(has("a", "x"), has("aa", "x"), has("a.", "x"), has("b", "a"), has("a-", "x"), has("0", "x"))
	wantSince(t, l, 0, numbered(l...), ok)
	wantSince(t, append(l, has("aa", "y")), 0, slices.Delete(numbered(append(l, has("aa", "y"))...), 1, 2), ok)
}

// As many updates as there may be, and each position.
func TestManyUpdatesP13_2(t *testing.T) {
	swap := slices.Repeat(changes(has("a", "x"), gone("a")), 50)
	u := numbered(swap...)
	for at := range 100 {
		wantSince(t, swap, at, u[99:], ok)
	}
	wantSince(t, swap, 100, nil, ok)
	wantSince(t, swap, 101, nil, rang)

	l := append(fill(6), slices.Repeat(changes(has("d3", "y"), has("d3", "x")), 47)...)
	u = numbered(l...)
	wantSince(t, l, 0, changes(u[0], u[1], u[2], u[4], u[5], u[99]), ok)
	wantSince(t, l, 4, changes(u[4], u[5], u[99]), ok)
	wantSince(t, l, 50, u[99:], ok)
	wantSince(t, l, 100, nil, ok)
}

// What the changes lead to are those of Play, also where the position is an
// error, too.
func TestErrorsP13_2(t *testing.T) {
	for _, at := range []int{-1, 0, 1, 2, 6, 7, 8, 100, 101, math.MaxInt, math.MinInt} {
		wantSince(t, changes(has("A", "x")), at, nil, form)
		wantSince(t, changes(has("a", "")), at, nil, form)
		wantSince(t, changes(has("a", "x"), gone("")), at, nil, form)
		wantSince(t, fill(7), at, nil, full)
		wantSince(t, append(fill(6), has("e", "x"), has("A", "x")), at, nil, full)
		wantSince(t, append(fill(6), has("e", "")), at, nil, form)
		wantSince(t, slices.Repeat(changes(has("a", "x")), 101), at, nil, size)
		wantSince(t, slices.Repeat(changes(has("A", "")), 101), at, nil, size)
	}
	for _, at := range []int{-1, 1, math.MaxInt, math.MinInt} {
		wantSince(t, nil, at, nil, rang)
	}
	for n := range 7 {
		wantSince(t, fill(n), n, nil, ok)
		wantSince(t, fill(n), n+1, nil, rang)
		wantSince(t, fill(n), -1, nil, rang)
	}
}

// The result shares no memory with the changes, with another result or with one
// of another call.
func TestMemoryP13_2(t *testing.T) {
	l := changes(has("aaaa", "xxxx"), has("bbbb", "yyyy"), gone("aaaa"), has("cccc", "zzzz"), has("bbbb", "wwww"))
	was := slices.Clone(l)
	var taken []string
	for _, c := range l {
		taken = append(taken, c.Device.Id, c.Device.Body)
	}
	var results [][]api.Update
	for at := range 6 {
		for range 2 {
			some, _ := Since(l, at)
			wantOwnStrings(t, &taken, devicesOf(some)...)
			results = append(results, some)
		}
	}
	for i, some := range results {
		if want, _ := likeSince(l, i/2); !slices.Equal(some, want) {
			t.Errorf("the result for %d became %v, it was %v", i/2, some, want)
		}
		spoil(some)
	}
	if !slices.Equal(l, was) {
		t.Errorf("the changes became %v", l)
	}

	some, _ := Since(l, 0)
	want, _ := likeSince(l, 0)
	spoil(l)
	if !slices.Equal(some, want) {
		t.Errorf("the result became %v", some)
	}
}
