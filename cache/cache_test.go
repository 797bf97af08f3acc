package cache

import (
	"maps"
	"math"
	"regexp"
	"slices"
	"strconv"
	"strings"
	"testing"

	"bagnall/api"
)

const (
	ok   = api.OK
	size = api.ErrSize
	rang = api.ErrRange
	form = api.ErrForm
)

// has is the update by which the device has the body.
func has(stream, prev int, id, body string) api.Update {
	return api.Update{Stream: stream, Prev: prev, Device: device(id, body)}
}

// gone is the update by which the device is removed.
func gone(stream, prev int, id string) api.Update {
	return api.Update{Stream: stream, Prev: prev, Device: device(id, ""), Gone: true}
}

func device(id, body string) api.Device { return api.Device{Id: id, Body: body} }

func updates(l ...api.Update) []api.Update { return l }

// fresh is a list that has all devices, stale one that may not.
func fresh(stream int, l ...api.Device) api.Listing { return api.Listing{Stream: stream, Devices: l} }

func stale(stream int, l ...api.Device) api.Listing {
	return api.Listing{Stream: stream, Stale: true, Devices: l}
}

func join[T any](parts ...[]T) []T { return slices.Concat(parts...) }

// chain numbers the updates from first+1 on, each of which follows on the one
// ahead of it.
func chain(first int, l ...api.Update) []api.Update {
	own := slices.Clone(l)
	for i := range own {
		own[i].Stream, own[i].Prev = first+i+1, first+i
	}
	return own
}

// fill is a chain of n updates that insert the devices "d0", "d1" and so on.
func fill(n int) []api.Update {
	var l []api.Update
	for _, d := range filled(n) {
		l = append(l, api.Update{Device: d})
	}
	return chain(0, l...)
}

func filled(n int) []api.Device {
	var l []api.Device
	for i := range n {
		l = append(l, device("d"+strconv.Itoa(i), "x"))
	}
	return l
}

// sorted is the devices in the order of their Ids.
func sorted(l []api.Device) []api.Device {
	own := slices.Clone(l)
	slices.SortFunc(own, func(a, b api.Device) int { return strings.Compare(a.Id, b.Id) })
	return own
}

func isSame(a, b api.Listing) bool {
	return a.Stream == b.Stream && a.Stale == b.Stale && slices.Equal(a.Devices, b.Devices)
}

var localForm = regexp.MustCompile(`\A[a-z0-9._=/-]{1,20}\z`)

func isDevice(d api.Device) bool {
	return localForm.MatchString(d.Id) && 0 < len(d.Body) && len(d.Body) < 21
}

// likeCheck is the error that updates have, by the second version.
func likeCheck(l []api.Update) api.Errno {
	if len(l) > 100 {
		return size
	}
	for _, u := range l {
		if u.Gone {
			u.Device.Body = "any"
		}
		switch {
		case !isDevice(u.Device):
			return form
		case u.Prev < 0, u.Prev >= u.Stream:
			return rang
		}
	}
	return ok
}

// likeCheckWhole is the error that a complete list has, by the second version.
func likeCheckWhole(whole api.Listing) api.Errno {
	bodies := map[string]string{}
	for _, d := range whole.Devices {
		bodies[d.Id] = d.Body
		if !isDevice(d) {
			return form
		}
	}
	if inOrder := slices.Sorted(maps.Keys(bodies)); !slices.EqualFunc(inOrder, whole.Devices, func(id string, d api.Device) bool { return d.Id == id }) {
		return form
	}
	if whole.Stream < 0 {
		return rang
	}
	return ok
}

// likeFollow is the second version of a cache that receives updates: it looks
// for each update that is applied among those that are left, and has the bodies
// in a map, where a device that is not there has none.
func likeFollow(start api.Listing, l []api.Update) api.Listing {
	bodies := map[string]string{}
	for _, d := range start.Devices {
		bodies[d.Id] = d.Body
	}
	for !start.Stale {
		next := slices.IndexFunc(l, func(u api.Update) bool { return u.Stream > start.Stream })
		if next < 0 {
			break
		}
		u := l[next]
		if start.Stale = u.Prev != start.Stream; start.Stale {
			break
		}
		start.Stream, l = u.Stream, l[next+1:]
		if bodies[u.Device.Id] = u.Device.Body; u.Gone {
			delete(bodies, u.Device.Id)
		}
	}
	start.Devices = nil
	for _, id := range slices.Sorted(maps.Keys(bodies)) {
		start.Devices = append(start.Devices, device(id, bodies[id]))
	}
	return start
}

// likePlay is the second version of Play.
func likePlay(l []api.Update) (api.Listing, api.Errno) {
	if e := likeCheck(l); e != ok {
		return api.Listing{}, e
	}
	return likeFollow(api.Listing{}, l), ok
}

// likeSettle is the second version of Settle.
func likeSettle(l []api.Update, whole api.Listing, more []api.Update) (api.Listing, api.Errno) {
	for _, e := range []api.Errno{likeCheck(l), likeCheck(more), likeCheckWhole(whole)} {
		if e != ok {
			return api.Listing{}, e
		}
	}
	start := likeFollow(api.Listing{}, l)
	if start.Stream <= whole.Stream && !whole.Stale {
		start = whole
	}
	return likeFollow(start, more), ok
}

// withMarks is a list with spare capacity behind it, which has marks in it.
func withMarks[T any](l []T, mark T) (list, whole []T) {
	whole = join(l, slices.Repeat([]T{mark}, 9))
	return whole[:len(l)], whole
}

func marked(l []api.Update) (list, whole []api.Update) {
	return withMarks(l, api.Update{Stream: 7, Prev: 6, Device: device("mark", "mark"), Gone: true})
}

// wantPlay says what Play returns, and that the updates stay as they are.
func wantPlay(t *testing.T, l []api.Update, want api.Listing, code api.Errno) {
	t.Helper()
	list, whole := marked(l)
	was := slices.Clone(whole)
	if got, e := Play(list); !isSame(got, want) || e != code {
		t.Errorf("Play(%v): %v %d, want %v %d", l, got, e, want, code)
	}
	if !slices.Equal(whole, was) {
		t.Errorf("Play: the updates became %v, they were %v", whole, was)
	}
}

// wantSettle says what Settle returns, and that all that is passed stays as it
// is.
func wantSettle(t *testing.T, l []api.Update, whole api.Listing, more []api.Update, want api.Listing, code api.Errno) {
	t.Helper()
	first, allFirst := marked(l)
	last, allLast := marked(more)
	list, all := withMarks(whole.Devices, device("mark", "mark"))
	wasFirst, wasLast, was := slices.Clone(allFirst), slices.Clone(allLast), slices.Clone(all)
	passed := api.Listing{Stream: whole.Stream, Stale: whole.Stale, Devices: list}
	if got, e := Settle(first, passed, last); !isSame(got, want) || e != code {
		t.Errorf("Settle(%v, %v, %v): %v %d, want %v %d", l, whole, more, got, e, want, code)
	}
	if !slices.Equal(allFirst, wasFirst) || !slices.Equal(allLast, wasLast) || !slices.Equal(all, was) {
		t.Errorf("Settle(%v, %v, %v): what is passed became %v, %v and %v", l, whole, more, allFirst, all, allLast)
	}
}

// wantLike says that Play returns what the second version does, and Settle,
// too, with the updates on either side of lists of any kind.
func wantLike(t *testing.T, l []api.Update) {
	t.Helper()
	want, e := likePlay(l)
	wantPlay(t, l, want, e)
	wantSettle(t, l, stale(5), nil, want, e)
	wantSettle(t, nil, fresh(0), l, want, e)
	wantLikeSettle(t, l, fresh(2, device("a", "w")), l)
}

func wantLikeSettle(t *testing.T, l []api.Update, whole api.Listing, more []api.Update) {
	t.Helper()
	want, e := likeSettle(l, whole, more)
	wantSettle(t, l, whole, more, want, e)
}

// wantCache says which cache the updates lead to.
func wantCache(t *testing.T, l []api.Update, want api.Listing) {
	t.Helper()
	wantPlay(t, l, want, ok)
	wantLike(t, l)
}

// wantError says that updates have an error, in both functions, on either side
// of a list of any kind, and whatever comes behind them.
func wantError(t *testing.T, l []api.Update, code api.Errno) {
	t.Helper()
	wantPlay(t, l, api.Listing{}, code)
	for _, whole := range []api.Listing{fresh(0), stale(0), fresh(9, device("b", "x")), stale(-1), fresh(2, device("B", "x"))} {
		wantSettle(t, l, whole, nil, api.Listing{}, code)
		wantSettle(t, nil, whole, l, api.Listing{}, code)
		wantSettle(t, chain(3, has(0, 0, "a", "x")), whole, l, api.Listing{}, code)
	}
	for _, after := range later() {
		if len(l)+len(after) <= 100 {
			wantPlay(t, join(l, after), api.Listing{}, code)
			wantSettle(t, join(l, after), fresh(0), nil, api.Listing{}, code)
			wantSettle(t, fill(1), fresh(4, device("a", "x")), join(l, after), api.Listing{}, code)
		}
		if code != size {
			wantSettle(t, l, fresh(0), after, api.Listing{}, code)
		}
	}
}

// later is updates that come behind others.
func later() [][]api.Update {
	return [][]api.Update{
		fill(7),
		updates(has(3, 2, "d0", "y"), gone(4, 3, "d1")),
		updates(has(5, 4, "A", "x")),
		updates(has(5, 4, "a", "")),
		updates(has(5, 5, "a", "x")),
		updates(has(5, -1, "a", "x")),
	}
}

// before is updates that lead to a cache of each kind: empty, with some devices,
// emptied again, stale with and without devices, and with more devices than an
// owner has.
func before() [][]api.Update {
	return [][]api.Update{
		nil,
		fill(1),
		fill(3),
		fill(9),
		chain(0, has(0, 0, "a", "x"), has(0, 0, "a", "y"), gone(0, 0, "a")),
		updates(has(2, 1, "a", "x")),
		append(fill(2), has(9, 7, "a", "x")),
		updates(has(math.MaxInt, 0, "a", "x")),
	}
}

func TestLimitsP14_1(t *testing.T) {
	if api.MaxActs != 100 || api.MaxName != 20 || api.MaxDevices != 6 {
		t.Errorf("the limits are %d, %d and %d", api.MaxActs, api.MaxName, api.MaxDevices)
	}
	if size != 1 || rang != 2 || form != 4 {
		t.Errorf("the errors are %d, %d and %d", size, rang, form)
	}
}

// wantUpdate says whether a device is valid in an update with or without Gone,
// in each kind of cache, whether it applies or ignores it or finds it stale.
func wantUpdate(t *testing.T, d api.Device, isGone, isValid bool) {
	t.Helper()
	u := api.Update{Stream: 1, Prev: 0, Device: d, Gone: isGone}
	if !isValid {
		for _, l := range before() {
			for _, number := range [][2]int{{1, 0}, {12, 11}} {
				u.Stream, u.Prev = number[0], number[1]
				wantPlay(t, append(l, u), api.Listing{}, form)
				wantSettle(t, l, stale(0), updates(u), api.Listing{}, form)
			}
		}
		return
	}
	want := fresh(1, d)
	if isGone {
		want.Devices = nil
	}
	wantPlay(t, updates(u), want, ok)
	wantSettle(t, nil, fresh(0, device("mmm", "x")), updates(u), fresh(1, sorted(append(want.Devices, device("mmm", "x")))...), ok)

	// It is of no use where it does not follow on the cache.
	u.Stream, u.Prev = 5, 4
	wantPlay(t, updates(u), stale(0), ok)
	wantPlay(t, append(fill(2), u), stale(2, filled(2)...), ok)
	wantPlay(t, append(updates(has(5, 0, "q", "q")), u), fresh(5, device("q", "q")), ok)
}

// wantId says whether a device may have that name.
func wantId(t *testing.T, id string, isLocal bool) {
	t.Helper()
	wantUpdate(t, device(id, "x"), false, isLocal)
	wantUpdate(t, device(id, "x"), true, isLocal)
	wantUpdate(t, device(id, ""), true, isLocal)
	wantWhole(t, device(id, "x"), isLocal)
	if !isLocal {
		wantUpdate(t, device(id, ""), false, false)
	}
}

func TestEachByteOfIdP14_1_P14_2(t *testing.T) {
	for i := range 256 {
		c := string([]byte{byte(i)})
		isLocal := strings.Contains("abcdefghijklmnopqrstuvwxyz0123456789._=-/", c)
		for _, shape := range []string{"?", "?ab", "a?b", "ab?", strings.Repeat("a", 19) + "?", "?" + strings.Repeat("a", 19)} {
			wantId(t, strings.Replace(shape, "?", c, 1), isLocal)
		}
	}
}

func TestEachLengthOfIdP14_1_P14_2(t *testing.T) {
	for n := range 50 {
		wantId(t, strings.Repeat("a", n), n > 0 && n <= 20)
		wantId(t, strings.Repeat("/", n), n > 0 && n <= 20)
	}
	for _, n := range []int{255, 256, 257, 276, 600, 65537, 1 << 20} {

		wantPlay(t, updates(has(1, 0, strings.Repeat("a", n), "x")), api.Listing{}, form)
		wantPlay(t, updates(gone(1, 0, strings.Repeat("a", n))), api.Listing{}, form)
		wantSettle(t, nil, fresh(1, device(strings.Repeat("a", n), "x")), nil, api.Listing{}, form)
	}
}

func TestOtherIdsP14_1_P14_2(t *testing.T) {
	for _, id := range []string{"", " ", "A", "aB", "a:b", "@a", "@a:x", "a ", " a", "a\n", "a\x00", "a+b", "é", "\xff", "ed:A", "a,b", "a~", "a`", "a{", "a^", "a<", "a>"} {
		wantId(t, id, false)
	}
	for _, id := range []string{".", "..", "-", "--", "/", "=", "_", "0", "a.", ".a", "a..b", "a.-b", "a-.b", "a/b", "example.org"} {
		wantId(t, id, true)
	}
}

// wantBody says whether a device may have that body: one of 1 to MaxName bytes.
// With Gone, whatever it is.
func wantBody(t *testing.T, body string) {
	t.Helper()
	isBody := len(body) > 0 && len(body) <= 20
	wantUpdate(t, device("a", body), false, isBody)
	wantWhole(t, device("a", body), isBody)
	wantUpdate(t, device("a", body), true, true)
	wantUpdate(t, device("A", body), true, false)
	wantUpdate(t, device("A", body), false, false)
}

func TestEachLengthOfBodyP14_1_P14_2(t *testing.T) {
	for _, c := range []string{"x", "\xff", "\x00", " ", "A", "0"} {
		for n := range 50 {
			wantBody(t, strings.Repeat(c, n))
		}
	}
	for _, n := range []int{255, 256, 257, 276, 600, 65537} {
		wantBody(t, strings.Repeat("x", n))
	}

	// Bytes count, not runes.
	wantBody(t, strings.Repeat("é", 10))
	wantBody(t, strings.Repeat("é", 10)+"x")
	wantBody(t, strings.Repeat("é", 11))
}

func TestEachByteOfBodyP14_1_P14_2(t *testing.T) {
	for i := range 256 {
		wantBody(t, string([]byte{byte(i)}))
		wantBody(t, string([]byte{'a', byte(i), 'b'}))
	}
}

// numbers is Streams and Prevs of any kind.
func numbers() []int {
	return []int{0, 1, 2, 3, 4, 5, 6, 7, -1, -2, 99, 255, 256, 1 << 31, 1 << 32, 1<<32 + 1, -1 << 31, -1 << 32, math.MaxInt - 1, math.MaxInt, math.MinInt, math.MinInt + 1}
}

// Each Prev with each Stream, in each kind of cache, and beside Gone.
func TestEachNumberP14_1(t *testing.T) {
	for _, stream := range numbers() {
		for _, prev := range numbers() {
			for _, u := range updates(has(stream, prev, "a", "x"), gone(stream, prev, "a"), gone(stream, prev, "d1")) {
				isValid := prev >= 0 && stream > prev
				for _, l := range before() {
					if isValid {
						wantLike(t, append(l, u))
						continue
					}
					wantPlay(t, append(l, u), api.Listing{}, rang)
					wantSettle(t, l, fresh(3), updates(u), api.Listing{}, rang)
				}
				if !isValid {
					wantError(t, updates(u), rang)
				}
			}
		}
	}
}

func TestMaxActsP14_1_P14_2(t *testing.T) {
	valid := updates(has(1, 0, "a", "x"), gone(1, 0, "a"), has(9, 8, "a", "x"), has(math.MaxInt, 0, "a", strings.Repeat("x", 20)))
	for _, u := range valid {
		wantLike(t, slices.Repeat(updates(u), 99))
		wantLike(t, slices.Repeat(updates(u), 100))
	}
	for _, u := range join(valid, updates(has(1, 0, "A", "x"), has(1, 0, "a", ""), has(0, 0, "a", "x"), has(0, -1, "a", "x"), api.Update{})) {
		for _, n := range []int{101, 102, 128, 200, 256, 257, 100000} {
			wantError(t, slices.Repeat(updates(u), n), size)
		}
	}

	// Each of the updates may be applied, in both parts.
	wantPlay(t, fill(100), fresh(100, sorted(filled(100))...), ok)
	wantError(t, fill(101), size)
	all := fill(200)
	wantSettle(t, all[:100], stale(0), all[100:], fresh(200, sorted(filled(200))...), ok)
	wantSettle(t, all[:100], stale(0), all[99:], api.Listing{}, size)
	wantSettle(t, all[:101], stale(0), all[101:], api.Listing{}, size)
	wantSettle(t, nil, stale(0), all[:100], fresh(100, sorted(filled(100))...), ok)
	wantSettle(t, nil, stale(0), all[:101], api.Listing{}, size)
}

// bad is updates with errors of each kind, of which the form is looked at first.
func bad() (formed, numbered []api.Update) {
	return updates(has(1, 0, "A", "x"), has(1, 0, "", "x"), gone(1, 0, "A"), has(1, 0, "a", ""), has(1, 0, "a", strings.Repeat("x", 21)),
			has(0, 0, "a", ""), has(1, -1, "A", "x"), has(1, 2, "d0", ""), gone(1, 1, ""), has(-1, 0, "a", ""), api.Update{}),
		updates(has(0, 0, "a", "x"), has(1, 1, "d0", "x"), has(1, -1, "a", "x"), has(1, 2, "a", "x"), gone(0, 0, "a"), gone(-1, -2, "a"), has(math.MinInt, math.MaxInt, "a", "x"))
}

// The first update with an error says which one it is, also behind as many as
// there may be.
func TestOrderOfErrorsP14_1(t *testing.T) {
	formed, numbered := bad()
	for _, l := range before() {
		for _, u := range formed {
			wantError(t, append(l, u), form)
		}
		for _, u := range numbered {
			wantError(t, append(l, u), rang)
		}
	}
	for _, u := range formed {
		for _, v := range numbered {
			wantError(t, updates(u, v), form)
			wantError(t, updates(v, u), rang)
			wantError(t, append(fill(7), u, has(8, 7, "a", "x"), v), form)
			wantError(t, append(fill(7), v, has(8, 7, "a", "x"), u), rang)
		}
	}
	for i, u := range join(formed, numbered) {
		code := form
		if i >= len(formed) {
			code = rang
		}
		wantError(t, append(fill(99), u), code)
		wantError(t, append(fill(100), u), size)
		wantError(t, append(fill(98), u, u), code)
		wantError(t, append(updates(u), fill(99)...), code)
		wantError(t, append(updates(u), fill(100)...), size)
		wantError(t, slices.Repeat(updates(u), 100), code)
		wantError(t, slices.Repeat(updates(u), 101), size)
	}
}
