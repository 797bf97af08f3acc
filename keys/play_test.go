package keys

import (
	"math/rand"
	"slices"
	"strconv"
	"strings"
	"sync"
	"testing"
	"unsafe"

	"bagnall/api"
)

// A key that was added cannot be added again.
func TestLeaveTwiceP11_1(t *testing.T) {
	before := []api.Ask{leave("a", "A", "x"), leave("a", "B", "y")}
	for _, body := range []string{"x", "y", ""} {
		wantError(t, before, leave("a", "A", body), twice)
		wantError(t, before, leave("a", "B", body), twice)
		wantError(t, join(before, []api.Ask{claim("a", 1)}), leave("a", "A", body), twice)
		wantError(t, join(before, []api.Ask{claim("a", 1), claim("a", 2)}), leave("a", "A", body), twice)
		wantError(t, join(before, []api.Ask{claim("a", 1), claim("a", 2)}), leave("a", "B", body), twice)
		wantError(t, join(before, []api.Ask{claim("a", 1), claim("a", 2), leave("a", "C", "z")}), leave("a", "A", body), twice)
	}
	wantLast(t, join(before, []api.Ask{leave("a", "a", "x")}), many(3))
	wantLast(t, join(before, []api.Ask{leave("a", "AA", "x")}), many(3))
	wantLast(t, join(before, []api.Ask{leave("a", "AB", "x")}), many(3))
}

// The Sort and the id together tell keys apart, not their bytes in a row.
func TestSameIdAtOtherSortsP11_1(t *testing.T) {
	l := []api.Ask{leave("a", "A", "1"), leave("b", "A", "2"), leave("ab", "A", "3"), leave("a", "bA", "4"), leave("aa", "a", "5"), leave("a", "aa", "6")}
	wantPlay(t, l, []api.Given{many(1), many(1), many(1), many(2), many(1), many(3)}, ok)
	for i, a := range l {
		wantError(t, l, a, twice)
		wantError(t, l[:i+1], a, twice)
	}
	wantPlay(t, join(l, []api.Ask{claim("ab", 1), claim("b", 1), claim("a", 1), claim("aa", 1), claim("a", 2), claim("a", 3), claim("a", 4), count("aa"), leave("aa", "A", "7"), claim("aa", 2)}),
		join([]api.Given{many(1), many(1), many(1), many(2), many(1), many(3)},
			[]api.Given{given("A", "3", 0), given("A", "2", 0), given("A", "1", 2), given("a", "5", 0), given("aa", "6", 1), given("bA", "4", 0), failed(none), many(0), many(1), given("A", "7", 0)}), ok)
}

// A key that is given away under one Sort is still there under the others.
func TestSameIdGivenElsewhereP11_1(t *testing.T) {
	l := []api.Ask{leave("a", "A", "1"), leave("b", "A", "2"), claim("a", 1)}
	wantLast(t, join(l, []api.Ask{count("b")}), many(1))
	wantLast(t, join(l, []api.Ask{count("a")}), many(0))
	wantLast(t, join(l, []api.Ask{claim("b", 1)}), given("A", "2", 0))
	wantLast(t, join(l, []api.Ask{claim("b", 2)}), given("A", "2", 0))
	wantLast(t, join(l, []api.Ask{claim("b", 2), leave("c", "A", "3")}), many(1))
}

func TestMaxKeysP11_1(t *testing.T) {
	twelve := leaveAll("a", letters(12)...)
	wantPlay(t, twelve, counted(12), ok)
	wantPlay(t, join(twelve, leaveAll("a", "M", "N", "M")), join(counted(12), []api.Given{failed(full), failed(full), failed(full)}), ok)
	wantError(t, twelve, leave("a", "M", "x"), full)
	wantError(t, leaveAll("a", letters(11)...), leave("a", "A", "x"), twice)
	wantLast(t, twelve, many(12))

	// What stands already is an error ahead of that of no room.
	for _, id := range letters(12) {
		wantError(t, twelve, leave("a", id, "x"), twice)
	}

	// There is room again after a key was given away, for one key each.
	wantLast(t, join(twelve, []api.Ask{claim("a", 1), leave("a", "M", "x")}), many(12))
	wantError(t, join(twelve, []api.Ask{claim("a", 1), leave("a", "M", "x")}), leave("a", "N", "x"), full)
	wantError(t, join(twelve, []api.Ask{claim("a", 1), claim("a", 1), leave("a", "M", "x")}), leave("a", "N", "x"), full)
	wantLast(t, join(twelve, []api.Ask{claim("a", 1), claim("a", 2), leave("a", "M", "x"), leave("a", "N", "x")}), many(12))
	wantError(t, join(twelve, []api.Ask{claim("a", 1), leave("a", "M", "x")}), leave("a", "A", "x"), twice)

	// One that was refused was not added.
	wantLast(t, join(twelve, []api.Ask{leave("a", "M", "x"), claim("a", 1), leave("a", "M", "y")}), many(12))

	// Other Sorts have room of their own, and the spare key needs none.
	wantLast(t, join(twelve, leaveAll("b", letters(12)...)), many(12))
	wantError(t, join(twelve, leaveAll("b", letters(12)...)), leave("b", "M", "x"), full)
	wantLast(t, join(twelve, []api.Ask{spare("a", "S", "x")}), many(12))
	wantLast(t, join([]api.Ask{spare("a", "S", "x")}, twelve), many(12))
	wantError(t, join([]api.Ask{spare("a", "S", "x")}, twelve), leave("a", "M", "x"), full)
	wantError(t, join([]api.Ask{spare("a", "S", "x"), claim("a", 1)}, twelve), leave("a", "M", "x"), full)
	wantError(t, join(twelve, []api.Ask{claim("b", 1), claim("a", 0), claim("A", 1)}), leave("a", "M", "x"), full)
}

// More than MaxKeys keys of a Sort are added and given away in the end.
func TestManyKeysGivenAwayP11_1(t *testing.T) {
	var l []api.Ask
	var want []api.Given
	for i := range 25 {
		id, body := strconv.Itoa(100+i), "of"+strconv.Itoa(i)
		l = append(l, leave("a", id, body), count("a"), claim("a", i+1), leave("a", id, body))
		want = append(want, many(1), many(1), given(id, body, 0), failed(twice))
	}
	wantPlay(t, l, want, ok)

	l, want = nil, nil
	for round := range 4 {
		for i := range 12 {
			l = append(l, leave("a", strconv.Itoa(100*(round+1)+i), "x"))
			want = append(want, many(i+1))
		}
		for i := range 12 {
			l = append(l, claim("a", 12*round+i+1))
			want = append(want, given(strconv.Itoa(100*(round+1)+i), "x", 11-i))
		}
	}
	wantPlay(t, append(l, claim("a", 1), claim("a", 49), leave("a", "100", "x")), append(want, given("100", "x", 0), failed(none), failed(twice)), ok)
}

func TestSpareP11_1(t *testing.T) {
	s := spare("a", "S", "x")
	wantPlay(t, []api.Ask{s, claim("a", 1), claim("a", 2), count("a")}, []api.Given{many(0), givenSpare("S", "x", 0), givenSpare("S", "x", 0), many(0)}, ok)

	// Before and after keys: these are given first.
	for _, l := range [][]api.Ask{{s, leave("a", "T", "y")}, {leave("a", "T", "y"), s}} {
		wantLast(t, l, many(1))
		wantLast(t, join(l, []api.Ask{count("a")}), many(1))
		wantLast(t, join(l, []api.Ask{claim("a", 1)}), given("T", "y", 0))
		wantLast(t, join(l, []api.Ask{claim("a", 1), claim("a", 2)}), givenSpare("S", "x", 0))
		wantLast(t, join(l, []api.Ask{claim("a", 1), claim("a", 2), leave("a", "V", "z"), claim("a", 3)}), given("V", "z", 0))
		wantLast(t, join(l, []api.Ask{claim("a", 1), claim("a", 2), leave("a", "V", "z"), claim("a", 3), claim("a", 4)}), givenSpare("S", "x", 0))
	}

	// Of two, the later one is it, whatever the order of the ids.
	for _, ids := range [][]string{{"S", "T"}, {"T", "S"}, {"S", "S"}} {
		l := []api.Ask{spare("a", ids[0], "x"), spare("a", ids[1], "y")}
		wantPlay(t, join(l, []api.Ask{claim("a", 1), count("a")}), []api.Given{many(0), many(0), givenSpare(ids[1], "y", 0), many(0)}, ok)
	}

	// Replaced after it was given away: who has none yet is given the new one.
	l := []api.Ask{s, claim("a", 1), spare("a", "R", "y")}
	wantLast(t, join(l, []api.Ask{claim("a", 2)}), givenSpare("R", "y", 0))
	wantLast(t, join(l, []api.Ask{claim("a", 1)}), givenSpare("S", "x", 0))
	wantLast(t, join(l, []api.Ask{spare("a", "S", "z"), claim("a", 3)}), givenSpare("S", "z", 0))
	wantLast(t, join(l, []api.Ask{spare("a", "S", "z"), claim("a", 1)}), givenSpare("S", "x", 0))
}

// The spare key is none of the keys that were added, also with the same id.
func TestSpareWithIdOfKeyP11_1(t *testing.T) {
	wantPlay(t, []api.Ask{leave("a", "A", "x"), spare("a", "A", "y"), claim("a", 1), claim("a", 2), spare("a", "A", "z"), claim("a", 3), leave("a", "A", "v")},
		[]api.Given{many(1), many(1), given("A", "x", 0), givenSpare("A", "y", 0), many(0), givenSpare("A", "z", 0), failed(twice)}, ok)
	wantPlay(t, []api.Ask{spare("a", "A", "y"), claim("a", 1), leave("a", "A", "x"), claim("a", 2), claim("a", 3), claim("a", 1)},
		[]api.Given{many(0), givenSpare("A", "y", 0), many(1), given("A", "x", 0), givenSpare("A", "y", 0), givenSpare("A", "y", 0)}, ok)
	wantPlay(t, []api.Ask{spare("a", "A", "y"), spare("a", "B", "y"), leave("a", "A", "x"), count("a")}, []api.Given{many(0), many(0), many(1), many(1)}, ok)
}

// Each Sort has a spare key of its own.
func TestSpareOfOtherSortP11_1(t *testing.T) {
	l := []api.Ask{spare("a", "S", "x"), leave("a", "A", "z")}
	wantError(t, l, claim("b", 1), none)
	wantError(t, l, claim("aa", 1), none)
	wantLast(t, join(l, []api.Ask{spare("b", "T", "y"), claim("b", 1)}), givenSpare("T", "y", 0))
	wantLast(t, join(l, []api.Ask{spare("b", "T", "y"), claim("a", 1), claim("a", 2)}), givenSpare("S", "x", 0))
}

// Keys are given in increasing order of their ids as byte strings, whatever the
// order in which they were added.
func TestOrderOfIdsP11_1(t *testing.T) {
	sorted := []string{"+", "+/", "/", "0", "10", "9", "A", "AA", "Z", "_", "a", "aA"}
	if !slices.IsSorted(sorted) || len(sorted) != api.MaxKeys {
		t.Fatal("the ids are not as they should be")
	}
	want := counted(len(sorted))
	var claims []api.Ask
	for i, id := range sorted {
		claims = append(claims, claim("a", 100-i))
		want = append(want, given(id, "of"+id, len(sorted)-1-i))
	}
	r := rand.New(rand.NewSource(1))
	for i := range 300 {
		ids := join(sorted[i%12:], sorted[:i%12])
		if i%24 >= 12 {
			slices.Reverse(ids)
		}
		if i >= 24 {
			r.Shuffle(len(ids), func(i, j int) { ids[i], ids[j] = ids[j], ids[i] })
		}
		wantPlay(t, join(leaveAll("a", ids...), claims), want, ok)
	}
	long := strings.Repeat("z", 19)
	for _, pair := range [][2]string{{"a", "b"}, {"a", "aa"}, {"B", "a"}, {"Z", "_"}, {"_", "a"}, {"9", "A"}, {"/", "0"}, {"+", "/"}, {"10", "2"}, {"aa", "b"}, {long, long + "+"}, {long + "a", long + "b"}, {"A" + long, "B"}} {
		wantLast(t, join(leaveAll("a", pair[0], pair[1]), []api.Ask{claim("a", 1)}), given(pair[0], "of"+pair[0], 1))
		wantLast(t, join(leaveAll("a", pair[1], pair[0]), []api.Ask{claim("a", 1)}), given(pair[0], "of"+pair[0], 1))
		wantLast(t, join(leaveAll("a", pair[1], pair[0]), []api.Ask{claim("a", 1), claim("a", 2)}), given(pair[1], "of"+pair[1], 0))
	}
}

// A smaller id that is added after a claim comes next.
func TestSmallerIdLaterP11_1(t *testing.T) {
	l := []api.Ask{leave("a", "C", "1"), leave("a", "D", "2"), claim("a", 1), leave("a", "B", "3"), leave("a", "A", "4"), claim("a", 2), claim("a", 3), claim("a", 4), claim("a", 1)}
	wantPlay(t, l, []api.Given{many(1), many(2), given("C", "1", 1), many(2), many(3), given("A", "4", 2), given("B", "3", 1), given("D", "2", 0), given("C", "1", 0)}, ok)
}

// The same device is given the same key again.
func TestClaimAgainP11_1(t *testing.T) {
	l := []api.Ask{leave("a", "B", "x"), leave("a", "C", "y"), claim("a", 1)}
	again := []api.Ask{claim("a", 1)}
	wantLast(t, l, given("B", "x", 1))
	wantLast(t, join(l, again), given("B", "x", 1))
	wantLast(t, join(l, again, again, again), given("B", "x", 1))
	wantLast(t, join(l, []api.Ask{claim("a", 2)}, again), given("B", "x", 0))
	wantLast(t, join(l, []api.Ask{claim("a", 2), spare("a", "S", "z"), claim("a", 3)}, again), given("B", "x", 0))
	wantLast(t, join(l, []api.Ask{spare("a", "S", "z")}, again), given("B", "x", 1))
	wantLast(t, join(l, []api.Ask{leave("a", "A", "z")}, again), given("B", "x", 2))
	wantLast(t, join(l, []api.Ask{leave("a", "A", "z")}, again, []api.Ask{claim("a", 2)}), given("A", "z", 1))
	wantLast(t, join(l, again, []api.Ask{claim("a", 2)}), given("C", "y", 0))
	wantLast(t, join(l, []api.Ask{leave("a", "B", "new"), spare("a", "B", "new")}, again), given("B", "x", 1))

	// Also if it was the spare one, replaced or not, with new keys or without.
	l = []api.Ask{spare("a", "S", "x"), claim("a", 1)}
	wantLast(t, join(l, again), givenSpare("S", "x", 0))
	wantLast(t, join(l, []api.Ask{leave("a", "A", "y")}, again), givenSpare("S", "x", 1))
	wantLast(t, join(l, []api.Ask{leave("a", "A", "y")}, again, []api.Ask{claim("a", 2)}), given("A", "y", 0))
	wantLast(t, join(l, []api.Ask{spare("a", "S", "y")}, again), givenSpare("S", "x", 0))
	wantLast(t, join(l, []api.Ask{spare("a", "T", "x")}, again), givenSpare("S", "x", 0))
	wantLast(t, join(l, []api.Ask{spare("a", "T", "y"), spare("a", "U", "z"), leave("a", "A", "y"), claim("a", 2)}, again), givenSpare("S", "x", 0))
}

// What a device was given counts for the Sort alone.
func TestClaimAtOtherSortP11_1(t *testing.T) {
	l := []api.Ask{leave("a", "A", "1"), leave("b", "B", "2"), spare("b", "S", "3"), claim("a", 1), claim("b", 1), claim("b", 2), claim("a", 1), claim("b", 1), claim("c", 1), claim("a", 2)}
	wantPlay(t, l, []api.Given{many(1), many(1), many(1), given("A", "1", 0), given("B", "2", 0), givenSpare("S", "3", 0), given("A", "1", 0), given("B", "2", 0), failed(none), failed(none)}, ok)
}

// A claim that got nothing is no claim that was given a key.
func TestClaimOfNoneP11_1(t *testing.T) {
	wantError(t, nil, claim("a", 1), none)
	wantError(t, []api.Ask{leave("b", "A", "x"), spare("b", "S", "y")}, claim("a", 1), none)
	wantError(t, []api.Ask{leave("a", "A", "x"), claim("a", 1)}, claim("a", 2), none)
	wantError(t, []api.Ask{leave("a", "A", "x"), claim("a", 1), claim("a", 2)}, claim("a", 2), none)
	wantLast(t, []api.Ask{claim("a", 1), leave("a", "A", "x"), claim("a", 1)}, given("A", "x", 0))
	wantLast(t, []api.Ask{claim("a", 1), spare("a", "S", "x"), claim("a", 1)}, givenSpare("S", "x", 0))
	wantLast(t, []api.Ask{leave("a", "A", "x"), claim("a", 1), claim("a", 2), leave("a", "B", "y"), claim("a", 1), claim("a", 2)}, given("B", "y", 0))
	wantLast(t, []api.Ask{leave("a", "A", "x"), claim("a", 1), claim("a", 2), spare("a", "B", "y"), claim("a", 2)}, givenSpare("B", "y", 0))
}

// Many is of the Sort, after the ask.
func TestManyP11_1(t *testing.T) {
	l := []api.Ask{leave("a", "A", "x"), count("a"), count("b"), leave("b", "A", "x"), leave("a", "B", "x"), leave("a", "C", "x"), count("a"), count("b"), count("c"), spare("a", "S", "x"), spare("b", "S", "x"), spare("c", "S", "x"),
		claim("a", 1), claim("a", 1), count("a"), count("b"), claim("b", 1), count("b"), claim("b", 2), count("b"), claim("c", 1), count("c"), claim("a", 2), claim("a", 3), claim("a", 4), claim("a", 1), count("a"), leave("a", "A", "x"), count("a"), leave("a", "D", "x"), claim("a", 1), spare("a", "T", "x")}
	want := []api.Given{many(1), many(1), many(0), many(1), many(2), many(3), many(3), many(1), many(0), many(3), many(1), many(0),
		given("A", "x", 2), given("A", "x", 2), many(2), many(1), given("A", "x", 0), many(0), givenSpare("S", "x", 0), many(0), givenSpare("S", "x", 0), many(0), given("B", "x", 1), given("C", "x", 0), givenSpare("S", "x", 0), given("A", "x", 0), many(0), failed(twice), many(0), many(1), given("A", "x", 1), many(1)}
	wantPlay(t, l, want, ok)
}

// Errors of every kind between the asks change nothing in the others.
func TestErrorsHaveNoEffectP11_1(t *testing.T) {
	l := []api.Ask{leave("a", "B", "x"), leave("a", "A", "y"), spare("a", "S", "z"), claim("a", 1), claim("a", 2), claim("a", 3), leave("a", "C", "v"), claim("a", 4), claim("a", 3), count("a")}
	errors := []api.Ask{{Kind: 5, Sort: "a", Id: "Z", Body: "w", By: 1}, claim("b", 1), claim("b", 3), claim("a", 0), claim("a", -1), leave("a", "", "w"), leave("A", "A", "w"), spare("a", "", "w"), spare("A", "S", "w"), count("A")}
	codes := []api.Errno{kind, none, none, rang, rang, form, form, form, form, form}
	plain, _ := Play(l)
	var between []api.Ask
	var want []api.Given
	for i, a := range l {
		between = append(append(between, a), errors[:9]...)
		want = append(want, plain[i])
		for _, code := range codes[:9] {
			want = append(want, failed(code))
		}
	}
	wantPlay(t, between, want, ok)
	for i := range l {
		for j, a := range errors {
			wantPlay(t, slices.Insert(slices.Clone(l), i, a), slices.Insert(slices.Clone(plain), i, failed(codes[j])), ok)
		}
		wantError(t, l[:i], leave("a", "Z:", "w"), form)
	}
}

// All sequences of up to five asks of a small choice.
func TestAllShortSequencesP11_1(t *testing.T) {
	choice := []api.Ask{leave("a", "A", "1"), leave("a", "B", "2"), leave("b", "A", "3"), spare("a", "S", "4"), spare("a", "A", "5"), claim("a", 1), claim("a", 2), claim("b", 1), count("a"), claim("a", 0)}
	var extend func(l []api.Ask)
	extend = func(l []api.Ask) {
		if len(l) == 5 {
			wantPlayLike(t, l)
			return
		}
		for _, a := range choice {
			extend(append(l, a))
		}
	}
	extend(make([]api.Ask, 0, 5))
}

// randomAsks is a list of n asks, few of which have errors of their form.
func randomAsks(r *rand.Rand, n int) []api.Ask {
	sorts, ids := []string{"a", "b", "a", "a", "A", "a:"}, strings.Split("ABCDEFGHIJKLMNOPQRSTUVWXYZ+/_019abcdefgh-:", "")
	l := make([]api.Ask, n)
	for i := range l {
		l[i] = api.Ask{Kind: 1 + r.Intn(4), Sort: sorts[r.Intn(4)], Id: ids[r.Intn(len(ids))], Body: strconv.Itoa(i), By: r.Intn(12)}
		if r.Intn(3) == 0 {
			l[i].Kind = api.Leave
		}
		if r.Intn(20) == 0 {
			l[i].Kind, l[i].Sort = r.Intn(7)-1, sorts[r.Intn(6)]
		}
	}
	return l
}

func TestRandomP11_1(t *testing.T) {
	r := rand.New(rand.NewSource(11))
	seen := map[api.Errno]int{}
	spares, again := 0, 0
	for range 3000 {
		l := randomAsks(r, r.Intn(102))
		wantPlayLike(t, l)
		answers, _ := likePlay(l)
		for _, a := range answers {
			seen[a.Code]++
			if a.Spare {
				spares++
			}
			if a.Id != "" && a.Many > 3 {
				again++
			}
		}
	}
	for _, code := range []api.Errno{ok, kind, form, rang, twice, full, none} {
		if seen[code] < 100 {
			t.Errorf("the code %d was seen %d times only", code, seen[code])
		}
	}
	if spares < 100 || again < 100 {
		t.Errorf("%d spare keys and %d keys with others left were seen only", spares, again)
	}
}

func FuzzPlayP11_1(f *testing.F) {
	f.Add([]byte{1, 0, 1, 1, 0, 0, 2, 0, 2, 3, 0, 1, 3, 0, 1, 3, 0, 2}, "a", "A")
	f.Add([]byte{1, 1, 0, 3, 1, 1, 4, 1, 0}, "signed_curve25519", "AAAAAQ")
	f.Add([]byte{0, 0, 0, 5, 0, 0, 3, 0, 0}, "a:b", "")
	f.Fuzz(func(t *testing.T, b []byte, sort, id string) {
		sorts := []string{"a", sort, "", "b"}
		var l []api.Ask
		for i := 0; i+2 < len(b); i += 3 {
			ids := []string{id, "A" + id, "B", string(rune('A' + b[i+2]%64))}
			l = append(l, api.Ask{Kind: int(b[i] % 8), Sort: sorts[b[i+1]%4], Id: ids[b[i+1]/4%4], Body: id + strconv.Itoa(i), By: int(int8(b[i+2]))})
		}
		wantPlayLike(t, l)
	})
}

func overlap(a, b string) bool {
	if a == "" || b == "" {
		return false
	}
	p, q := uintptr(unsafe.Pointer(unsafe.StringData(a))), uintptr(unsafe.Pointer(unsafe.StringData(b)))
	return p < q+uintptr(len(b)) && q < p+uintptr(len(a))
}

// Results share no memory with arguments or with each other, also not strings.
func TestMemoryP11_1(t *testing.T) {
	long := func(s string) string { return strings.Repeat(s, 10) }
	l := []api.Ask{leave("aaaa", long("A"), long("x")), leave("aaaa", long("B"), long("y")), spare("aaaa", long("S"), long("z")), claim("aaaa", 1), claim("aaaa", 1), claim("aaaa", 2), claim("aaaa", 3), claim("aaaa", 3), claim("aaaa", 4)}
	answers, _ := Play(l)
	again, _ := Play(l)
	all := join(answers, again)
	var taken []string
	for _, a := range l {
		taken = append(taken, a.Sort, a.Id, a.Body)
	}
	for i, a := range all {
		for _, s := range taken {
			if overlap(a.Id, s) || overlap(a.Body, s) {
				t.Errorf("the answer %d has memory of %q", i, s)
			}
		}
		taken = append(taken, a.Id, a.Body)
	}

	// Each list is spoiled with its spare capacity, and the others stay.
	was, wasAsks := slices.Clone(again), slices.Clone(l)
	spoiled := answers[:cap(answers)]
	for i := range spoiled {
		spoiled[i] = api.Given{Code: 99, Id: "spoiled", Many: 99}
	}
	if !slices.Equal(again, was) || !slices.Equal(l, wasAsks) {
		t.Error("a result shares memory with another one, or with an argument")
	}
}

// Nothing is kept from call to call, also not among calls at the same time.
func TestNothingIsKeptP11_1(t *testing.T) {
	lists := [][]api.Ask{
		{claim("a", 1), count("a")},
		{leave("a", "A", "x"), spare("a", "S", "y"), claim("a", 1), claim("a", 2)},
		{leave("a", "A", "z"), count("a"), claim("a", 2), leave("a", "A", "z")},
		leaveAll("a", letters(13)...),
		{spare("a", "T", "v"), claim("a", 1), claim("b", 1)},
	}
	var all sync.WaitGroup
	for range 8 {
		all.Go(func() {
			for i := range 200 {
				l := lists[i%len(lists)]
				want, _ := likePlay(l)
				if got, e := Play(l); !slices.Equal(got, want) || e != ok {
					t.Errorf("Play(%v): %v %d, want %v", l, got, e, want)
				}
			}
		})
	}
	all.Wait()
}

// What a call has taken is not retained: its strings may not be changed, but the
// list may, and the answers stay.
func TestAsksAreNotRetainedP11_1(t *testing.T) {
	l := []api.Ask{leave("a", "A", "x"), spare("a", "S", "y"), claim("a", 1), claim("a", 2)}
	got, _ := Play(l)
	for i := range l {
		l[i] = leave("b", "spoiled", "spoiled")
	}
	if want := []api.Given{many(1), many(1), given("A", "x", 0), givenSpare("S", "y", 0)}; !slices.Equal(got, want) {
		t.Errorf("the answers became %v, they were %v", got, want)
	}
}
