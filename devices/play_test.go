package devices

import (
	"math"
	"math/rand"
	"slices"
	"strconv"
	"strings"
	"sync"
	"testing"
	"unsafe"

	"bagnall/api"
)

func TestNoChangeP13_1(t *testing.T) {
	wantPlay(t, nil, nil, list(0), ok)
	wantPlay(t, changes(), nil, list(0), ok)
}

func TestExampleP13_1(t *testing.T) {
	wantPlay(t, changes(has("a", "x"), has("a", "x")), numbered(has("a", "x")), list(1, device("a", "x")), ok)
}

// Each kind of change to a device, behind each kind.
func TestOneDeviceP13_1(t *testing.T) {
	x, y, no := has("a", "x"), has("a", "y"), gone("a")
	wantPlay(t, changes(x), numbered(x), list(1, x.Device), ok)
	wantPlay(t, changes(no), nil, list(0), ok)
	wantPlay(t, changes(no, no, x), numbered(x), list(1, x.Device), ok)
	wantPlay(t, changes(x, y), numbered(x, y), list(2, y.Device), ok)
	wantPlay(t, changes(x, y, x), numbered(x, y, x), list(3, x.Device), ok)
	wantPlay(t, changes(x, y, y, x, x), numbered(x, y, x), list(3, x.Device), ok)
	wantPlay(t, changes(x, no), numbered(x, no), list(2), ok)
	wantPlay(t, changes(x, no, no), numbered(x, no), list(2), ok)
	wantPlay(t, changes(x, no, x), numbered(x, no, x), list(3, x.Device), ok)
	wantPlay(t, changes(x, no, no, x, x, no), numbered(x, no, x, no), list(4), ok)
	wantPlay(t, changes(x, no, y), numbered(x, no, y), list(3, y.Device), ok)
	wantPlay(t, changes(x, y, no, y), numbered(x, y, no, y), list(4, y.Device), ok)
}

// Changes without an effect produce no update, and the numbers of the updates
// have no gaps.
func TestNoEffectP13_1(t *testing.T) {
	for _, before := range lists() {
		_, final, _ := Play(before)
		for _, d := range final.Devices {
			wantNoEffect(t, before, has(d.Id, d.Body))
			wantNoEffect(t, before, api.Update{Stream: 9, Prev: 9, Device: d})
		}
		for _, id := range []string{"never", "a1", "0", "z", "d", "d00"} {
			wantNoEffect(t, before, gone(id))
			wantNoEffect(t, before, api.Update{Device: device(id, "x"), Gone: true})
			wantNoEffect(t, before, api.Update{Device: device(id, strings.Repeat("x", 21)), Gone: true})
		}
	}
	wantNoEffect(t, changes(has("a", "x"), has("b", "y"), has("a", "y")), has("b", "y"))
	wantNoEffect(t, changes(has("a", "x"), has("b", "y"), has("a", "y")), has("a", "y"))
	wantNoEffect(t, changes(has("a", "x"), has("b", "y"), gone("a")), gone("a"))

	a, b, c := has("a", "x"), has("b", "x"), has("c", "x")
	wantPlay(t, changes(gone("b"), a, a, gone("c"), b, a, b, gone("d"), c, gone("a"), gone("a"), b, a, c),
		numbered(a, b, c, gone("a"), a), list(5, a.Device, b.Device, c.Device), ok)
}

// Each device has its own Body: that of another one has no meaning for it.
func TestSameBodyP13_1(t *testing.T) {
	l := changes(has("a", "x"), has("b", "x"), has("x", "a"), has("x", "b"), has("a", "b"), has("b", "a"), has("ab", "x"), gone("x"), has("a", "bx"), has("b", "bx"))
	wantPlay(t, l, numbered(l...), list(10, device("a", "bx"), device("ab", "x"), device("b", "bx")), ok)
}

// Bodies are compared byte by byte.
func TestOtherBodiesP13_1(t *testing.T) {
	bodies := []string{"x", "X", "x ", " x", "x\x00", "\x00", "\x00\x00", "xx", "é", "e\u0301", "\xff", "\xfe", "y", "0", "00", "true", strings.Repeat("x", 19), strings.Repeat("x", 20), strings.Repeat("x", 19) + "y"}
	for _, was := range bodies {
		for _, is := range bodies {
			if l := changes(has("a", was), has("a", is)); was != is {
				wantPlay(t, l, numbered(l...), list(2, device("a", is)), ok)
			} else {
				wantPlay(t, l, numbered(l[0]), list(1, device("a", is)), ok)
			}
		}
	}
}

// The Body beside Gone is neither used nor returned.
func TestBodyBesideGoneP13_1(t *testing.T) {
	for _, body := range []string{"", "x", "y", strings.Repeat("x", 20), strings.Repeat("x", 21), strings.Repeat("x", 70000)} {
		removal := api.Update{Device: device("a", body), Gone: true}
		wantPlay(t, changes(has("a", "x"), removal), numbered(has("a", "x"), gone("a")), list(2), ok)
		wantPlay(t, changes(has("a", "x"), removal, removal, has("a", "x")), numbered(has("a", "x"), gone("a"), has("a", "x")), list(3, device("a", "x")), ok)
		wantPlay(t, changes(removal, has("b", "x")), numbered(has("b", "x")), list(1, device("b", "x")), ok)
		wantError(t, changes(api.Update{Device: device("A", body), Gone: true}), form)
	}
}

// Stream and Prev of a change are not used.
func TestFieldsNotUsedP13_1(t *testing.T) {
	l := changes(has("b", "x"), has("a", "x"), has("b", "x"), gone("b"), gone("c"), has("a", "y"))
	want := numbered(has("b", "x"), has("a", "x"), gone("b"), has("a", "y"))
	for i, stream := range []int{0, 1, 2, 3, -1, 6, 99, math.MaxInt, math.MinInt} {
		for j, prev := range []int{0, 1, 2, -1, 99, math.MaxInt, math.MinInt} {
			for i := range l {
				l[i].Stream, l[i].Prev = stream, prev
			}
			wantPlay(t, l, want, list(4, device("a", "y")), ok)
			wantSince(t, l, 1, want[2:], ok)

			// Also where they are not the same in all changes.
			l[i%6].Stream, l[j%6].Prev = 1, 0
			wantPlay(t, l, want, list(4, device("a", "y")), ok)
		}
	}
}

// The list is sorted by the bytes of the Ids.
func TestOrderOfListP13_1(t *testing.T) {
	groups := [][]string{
		{"a", "aa", "aaa", "ab", "b", "ba"},
		{"-", ".", "/", "0", "9", "="},
		{"=", "_", "a", "z", "za", "zz"},
		{"a-", "a.", "a/", "a0", "a=", "a_"},
		{"-a", "/a", "0a", "9", "_", "_a"},
		{"a", "a-", "a.b", "a0", "aa", "b-"},
		{"10", "11", "2", "9", "a1", "a10"},
	}
	for _, group := range groups {
		var devices []api.Device
		for i, id := range group {
			devices = append(devices, device(id, "x"+strconv.Itoa(9-i)))
		}
		for order := range permutations(6) {
			var l []api.Update
			for _, i := range order {
				l = append(l, api.Update{Device: devices[i]})
			}
			wantPlay(t, l, numbered(l...), list(6, devices...), ok)

			// Also after two were removed, and one came back.
			l = append(l, gone(group[1]), gone(group[4]), has(group[1], "y"))
			wantPlay(t, l, numbered(l...), list(9, devices[0], device(group[1], "y"), devices[2], devices[3], devices[5]), ok)
		}
	}
}

// permutations is all orders of the numbers below n.
func permutations(n int) func(yield func([]int) bool) {
	return func(yield func([]int) bool) {
		var extend func(order []int) bool
		extend = func(order []int) bool {
			if len(order) == n {
				return yield(order)
			}
			for i := range n {
				if !slices.Contains(order, i) && !extend(append(slices.Clone(order), i)) {
					return false
				}
			}
			return true
		}
		extend(nil)
	}
}

func TestMaxDevicesP13_1(t *testing.T) {
	for n := range 7 {
		wantPlay(t, fill(n), numbered(fill(n)...), list(n, filled(n)...), ok)
	}
	for n := 7; n < 20; n++ {
		wantError(t, fill(n), full)
	}
	for _, id := range []string{"e", "a", "d00", "d6", "z", "0"} {
		wantError(t, join(fill(6), changes(has(id, "x"))), full)
		wantError(t, join(fill(6), changes(has(id, "x"), gone(id))), full)
		wantError(t, join(fill(6), changes(has(id, "x"), gone("d0"))), full)
		wantError(t, join(fill(6), changes(gone("d0"), has(id, "x"), has("d0", "x"))), full)
		wantError(t, join(fill(6), changes(gone("e"), gone("d7"), has(id, "x"))), full)
	}

	// Another Body, and a change without an effect, need no room.
	for i, d := range filled(6) {
		other := has(d.Id, "y")
		devices := slices.Clone(filled(6))
		devices[i] = other.Device
		wantPlay(t, join(fill(6), changes(other)), numbered(append(fill(6), other)...), list(7, devices...), ok)
		wantError(t, join(fill(6), changes(other, has("e", "x"))), full)
		wantNoEffect(t, fill(6), has(d.Id, "x"))
	}
	wantNoEffect(t, fill(6), gone("e"))

	// After one was removed there is room for one more.
	for i, d := range filled(6) {
		for _, id := range []string{"e", "a", d.Id} {
			l := append(fill(6), gone(d.Id), has(id, "z"))
			wantFinal(t, l, 8, sorted(append(slices.Delete(filled(6), i, i+1), device(id, "z")))...)
			wantError(t, append(l, has("f", "x")), full)
			wantError(t, append(l, gone("f"), gone("g"), has("f", "x")), full)
			wantFinal(t, append(l, gone(id), has("f", "x")), 10, sorted(append(slices.Delete(filled(6), i, i+1), device("f", "x")))...)
		}
	}
}

func sorted(l []api.Device) []api.Device {
	slices.SortFunc(l, func(a, b api.Device) int { return strings.Compare(a.Id, b.Id) })
	return l
}

// More than MaxDevices devices exist one after another.
func TestManyDevicesP13_1(t *testing.T) {
	var l []api.Update
	for i := range 50 {
		id := "d" + strconv.Itoa(i)
		l = append(l, has(id, "x"), gone(id))
	}
	wantPlay(t, l, numbered(l...), list(100), ok)

	l = fill(6)
	for i := range 47 {
		l = append(l, gone("d"+strconv.Itoa(i)), has("d"+strconv.Itoa(i+6), "x"))
	}
	wantFinal(t, l, 100, device("d47", "x"), device("d48", "x"), device("d49", "x"), device("d50", "x"), device("d51", "x"), device("d52", "x"))
	wantError(t, join(l[:98], changes(has("e", "x"))), full)
}

// All short sequences of some changes.
func TestAllSequencesP13_1_P13_2(t *testing.T) {
	choice := changes(has("a", "x"), has("a", "y"), gone("a"), has("b", "x"), api.Update{Device: device("b", "x"), Gone: true}, gone("ab"), has("ab", "x"), has("B", "x"))
	var extend func(l []api.Update)
	extend = func(l []api.Update) {
		wantLike(t, l)
		if len(l) == 5 {
			return
		}
		for _, c := range choice {
			extend(append(l, c))
		}
	}
	extend(make([]api.Update, 0, 5))
}

// randomChanges is a list of n changes, few of which have errors.
func randomChanges(r *rand.Rand, n int) []api.Update {
	ids := []string{"a", "ab", "b", "-", "0", "a.", "_", "abc", "c"}
	several := 5 + r.Intn(5)
	l := make([]api.Update, n)
	for i := range l {
		l[i] = api.Update{Stream: r.Intn(9), Prev: r.Intn(9), Device: device(ids[r.Intn(several)], strings.Repeat("x", 1+r.Intn(3))), Gone: r.Intn(4) == 0}
		if r.Intn(200) == 0 {
			l[i].Device.Body = strings.Repeat("y", r.Intn(25))
		}
		if r.Intn(600) == 0 {
			l[i].Device.Id = strings.Repeat("a", r.Intn(25))
		}
		if r.Intn(1000) == 0 {
			l[i].Device.Id += "A"
		}
	}
	return l
}

func TestRandomP13_1_P13_2(t *testing.T) {
	r := rand.New(rand.NewSource(13))
	seen := map[api.Errno]int{}
	long, fewer := 0, 0
	for range 2000 {
		l := randomChanges(r, r.Intn(103))
		wantLike(t, l)
		updates, _, e := likePlay(l)
		seen[e]++
		if len(updates) > 30 {
			long++
		}
		if some, _ := likeSince(l, len(updates)/2); len(some) > 1 && len(some) < len(updates)-len(updates)/2 {
			fewer++
		}
	}
	for _, code := range []api.Errno{ok, form, full} {
		if seen[code] < 100 {
			t.Errorf("the code %d was seen %d times only", code, seen[code])
		}
	}
	if seen[size] < 10 || long < 100 || fewer < 100 {
		t.Errorf("%d lists of more than MaxActs changes, %d long ones and %d with later updates were seen only", seen[size], long, fewer)
	}
}

func FuzzPlayP13_1_P13_2(f *testing.F) {
	f.Add([]byte{0, 1, 1, 2, 2, 1, 3, 0, 1, 3}, "abc", "x", 1)
	f.Add([]byte{0, 1, 2, 3, 4, 5, 6, 7, 8, 9}, "-a", "xxxxxxxxxxxxxxxxxxxxx", 0)
	f.Add([]byte{0, 1, 7, 1, 0, 1}, "A", "", -1)
	f.Fuzz(func(t *testing.T, b []byte, id, body string, at int) {
		var l []api.Update
		for _, c := range b {
			d := device(id+strings.Repeat("a", int(c)/4%8), body+strings.Repeat("b", int(c)/32))
			l = append(l, api.Update{Stream: at, Prev: int(c), Device: d, Gone: c%4 == 0})
		}
		wantLike(t, l)
		some, e := likeSince(l, at)
		wantSince(t, l, at, some, e)
	})
}

func overlap(a, b string) bool {
	if a == "" || b == "" {
		return false
	}
	p, q := uintptr(unsafe.Pointer(unsafe.StringData(a))), uintptr(unsafe.Pointer(unsafe.StringData(b)))
	return p < q+uintptr(len(b)) && q < p+uintptr(len(a))
}

// wantOwnStrings says that the devices share no memory with what was taken
// before, and adds theirs to it.
func wantOwnStrings(t *testing.T, taken *[]string, devices ...api.Device) {
	t.Helper()
	for _, d := range devices {
		for _, s := range *taken {
			if overlap(d.Id, s) || overlap(d.Body, s) {
				t.Errorf("%q has memory of %q", d, s)
			}
		}
		*taken = append(*taken, d.Id, d.Body)
	}
}

func devicesOf(l []api.Update) []api.Device {
	var devices []api.Device
	for _, u := range l {
		devices = append(devices, u.Device)
	}
	return devices
}

// Results share no memory with arguments or with each other, also not strings
// and not spare capacity.
func TestMemoryP13_1(t *testing.T) {
	l := changes(has("aaaa", "xxxx"), has("bbbb", "yyyy"), gone("aaaa"), has("bbbb", "zzzz"), has("cccc", "wwww"), has("aaaa", "vvvv"), has("dddd", "uuuu"))
	was := slices.Clone(l)
	updates, final, _ := Play(l)
	again, finalAgain, _ := Play(l)
	var taken []string
	for _, c := range l {
		taken = append(taken, c.Device.Id, c.Device.Body)
	}
	wantOwnStrings(t, &taken, devicesOf(updates)...)
	wantOwnStrings(t, &taken, final.Devices...)
	wantOwnStrings(t, &taken, devicesOf(again)...)
	wantOwnStrings(t, &taken, finalAgain.Devices...)

	// Each list is spoiled with its spare capacity, and the others stay.
	want, wantList, _ := likePlay(l)
	spoil(updates)
	if !isSame(final, wantList) {
		t.Errorf("the list shares memory with the updates: it became %v", final)
	}
	whole := final.Devices[:cap(final.Devices)]
	for i := range whole {
		whole[i] = device("spoiled", "spoiled")
	}
	if !slices.Equal(again, want) || !isSame(finalAgain, wantList) || !slices.Equal(l, was) {
		t.Error("a result shares memory with one of another call, or with an argument")
	}
	updates, final, _ = Play(l)
	whole = final.Devices[:cap(final.Devices)]
	clear(whole)
	if !slices.Equal(updates, want) {
		t.Errorf("the updates share memory with the list: they became %v", updates)
	}
}

// spoil changes a list and its spare capacity.
func spoil(l []api.Update) {
	whole := l[:cap(l)]
	for i := range whole {
		whole[i] = api.Update{Stream: 99, Prev: 99, Device: device("spoiled", "spoiled"), Gone: true}
	}
}

// What a call has taken is not retained: the list may be changed, and the
// results stay.
func TestChangesAreNotRetainedP13_1(t *testing.T) {
	l := changes(has("a", "x"), has("b", "y"), gone("a"))
	want := numbered(l...)
	updates, final, _ := Play(l)
	spoil(l)
	if !slices.Equal(updates, want) || !isSame(final, list(3, device("b", "y"))) {
		t.Errorf("the results became %v %v", updates, final)
	}
}

// Nothing is kept from call to call, also not among calls at the same time.
func TestNothingIsKeptP13_1_P13_2(t *testing.T) {
	all := [][]api.Update{nil, fill(6), fill(7), changes(has("a", "x"), has("a", "y"), gone("a")), changes(has("d0", "y"), gone("d1")), changes(has("A", "x"))}
	var workers sync.WaitGroup
	for range 8 {
		workers.Go(func() {
			for i := range 200 {
				wantLike(t, all[i%len(all)])
			}
		})
	}
	workers.Wait()
}
