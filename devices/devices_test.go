package devices

import (
	"maps"
	"math"
	"regexp"
	"slices"
	"strconv"
	"strings"
	"testing"

	"bagnall/api"
)

const (
	ok   = api.OK
	size = api.ErrSize
	rang = api.ErrRange
	form = api.ErrForm
	full = api.ErrFull
)

// has is the change by which the device has the body.
func has(id, body string) api.Update { return api.Update{Device: device(id, body)} }

// gone is the change by which the device is removed.
func gone(id string) api.Update { return api.Update{Device: device(id, ""), Gone: true} }

func device(id, body string) api.Device { return api.Device{Id: id, Body: body} }

func changes(l ...api.Update) []api.Update { return l }

// numbered is the changes as updates: with Stream and Prev.
func numbered(l ...api.Update) []api.Update {
	own := slices.Clone(l)
	for i := range own {
		own[i].Stream, own[i].Prev = i+1, i
	}
	return own
}

// list is a device list.
func list(stream int, l ...api.Device) api.Listing {
	return api.Listing{Stream: stream, Devices: l}
}

func join[T any](parts ...[]T) []T { return slices.Concat(parts...) }

// fill adds n devices, the names of which are "d0", "d1" and so on.
func fill(n int) []api.Update {
	var l []api.Update
	for i := range n {
		l = append(l, has("d"+strconv.Itoa(i), "x"))
	}
	return l
}

// filled is the devices that fill adds.
func filled(n int) []api.Device {
	var l []api.Device
	for _, c := range fill(n) {
		l = append(l, c.Device)
	}
	return l
}

func isSame(a, b api.Listing) bool {
	return a.Stream == b.Stream && a.Stale == b.Stale && slices.Equal(a.Devices, b.Devices)
}

var localForm = regexp.MustCompile(`\A[a-z0-9._=/-]{1,20}\z`)

// likePlay is the second version of Play: it has the bodies in a map, where a
// device that is not there has none.
func likePlay(l []api.Update) (updates []api.Update, final api.Listing, e api.Errno) {
	if len(l) > 100 {
		return nil, api.Listing{}, size
	}
	bodies := map[string]string{}
	for _, c := range l {
		id, body := c.Device.Id, c.Device.Body
		switch {
		case !localForm.MatchString(id), !c.Gone && (body == "" || len(body) > 20):
			return nil, api.Listing{}, form
		case c.Gone:
			body = ""
		}
		if bodies[id] == body {
			continue
		}
		bodies[id] = body
		maps.DeleteFunc(bodies, func(_, body string) bool { return body == "" })
		if len(bodies) == 7 {
			return nil, api.Listing{}, full
		}
		updates = append(updates, api.Update{Device: device(id, body), Gone: c.Gone})
	}
	for _, id := range slices.Sorted(maps.Keys(bodies)) {
		final.Devices = append(final.Devices, device(id, bodies[id]))
	}
	final.Stream = len(updates)
	return numbered(updates...), final, ok
}

// likeSince is the second version of Since: it goes through the updates from the
// last one to the first one.
func likeSince(l []api.Update, at int) (some []api.Update, e api.Errno) {
	updates, _, e := likePlay(l)
	if e != ok {
		return nil, e
	}
	if at < 0 || at > len(updates) {
		return nil, rang
	}
	isSeen := map[string]bool{}
	for _, u := range slices.Backward(updates) {
		if !isSeen[u.Device.Id] && u.Stream > at {
			some = append(some, u)
		}
		isSeen[u.Device.Id] = true
	}
	slices.Reverse(some)
	return some, ok
}

// withMarks is a list with spare capacity behind it, which has marks in it.
func withMarks(l []api.Update) (list, whole []api.Update) {
	mark := api.Update{Stream: 7, Prev: 7, Device: device("mark", "mark"), Gone: true}
	whole = join(l, slices.Repeat(changes(mark), 30))
	return whole[:len(l)], whole
}

// wantPlay says what Play returns, and that the changes stay as they are.
func wantPlay(t *testing.T, l, want []api.Update, final api.Listing, code api.Errno) {
	t.Helper()
	list, whole := withMarks(l)
	was := slices.Clone(whole)
	if updates, got, e := Play(list); !slices.Equal(updates, want) || !isSame(got, final) || e != code {
		t.Errorf("Play(%v): %v %v %d, want %v %v %d", l, updates, got, e, want, final, code)
	}
	if !slices.Equal(whole, was) {
		t.Errorf("Play: the changes became %v, they were %v", whole, was)
	}
}

// wantSince says what Since returns, and that the changes stay as they are.
func wantSince(t *testing.T, l []api.Update, at int, want []api.Update, code api.Errno) {
	t.Helper()
	list, whole := withMarks(l)
	was := slices.Clone(whole)
	if some, e := Since(list, at); !slices.Equal(some, want) || e != code {
		t.Errorf("Since(%v, %d): %v %d, want %v %d", l, at, some, e, want, code)
	}
	if !slices.Equal(whole, was) {
		t.Errorf("Since: the changes became %v, they were %v", whole, was)
	}
}

// wantLike says that Play and Since return what the second versions do, for
// each position.
func wantLike(t *testing.T, l []api.Update) {
	t.Helper()
	updates, final, e := likePlay(l)
	wantPlay(t, l, updates, final, e)
	for at := -1; at <= len(updates)+1; at++ {
		some, e := likeSince(l, at)
		wantSince(t, l, at, some, e)
	}
}

// wantFinal says what the final list has, and as which update it is known.
func wantFinal(t *testing.T, l []api.Update, stream int, devices ...api.Device) {
	t.Helper()
	if _, final, e := Play(l); !isSame(final, list(stream, devices...)) || e != ok {
		t.Errorf("Play(%v): %v %d, want %v at %d", l, final, e, devices, stream)
	}
	wantLike(t, l)
}

// wantNoEffect says that the change has no effect behind the others, whatever
// comes behind it.
func wantNoEffect(t *testing.T, before []api.Update, c api.Update) {
	t.Helper()
	updates, final, e := Play(before)
	if e != ok {
		t.Fatalf("Play(%v): %d", before, e)
	}
	wantPlay(t, join(before, changes(c)), updates, final, ok)
	wantPlay(t, join(before, changes(c, c)), updates, final, ok)
	for _, after := range later() {
		updates, final, e := Play(join(before, after))
		wantPlay(t, join(before, changes(c), after), updates, final, e)
	}
	wantLike(t, join(before, changes(c)))
}

// wantError says that changes have an error in both functions, whatever comes
// behind them and whatever the position.
func wantError(t *testing.T, l []api.Update, code api.Errno) {
	t.Helper()
	wantPlay(t, l, nil, api.Listing{}, code)
	for _, at := range []int{0, 1, -1, 2, 101, math.MaxInt, math.MinInt} {
		wantSince(t, l, at, nil, code)
	}
	for _, after := range later() {
		if len(l)+len(after) <= 100 {
			wantPlay(t, join(l, after), nil, api.Listing{}, code)
			wantSince(t, join(l, after), 0, nil, code)
		}
	}
}

// later is changes that come behind others.
func later() [][]api.Update {
	return [][]api.Update{
		changes(has("d0", "y"), gone("d1"), has("z", "x")),
		changes(has("A", "x")),
		changes(has("a", "")),
		fill(7),
		changes(gone("d0"), gone("d1"), gone("d2"), gone("d3")),
	}
}

// lists is changes that lead to lists of each kind: empty, with some devices,
// emptied again, with MaxDevices devices, and with those after others.
func lists() [][]api.Update {
	return [][]api.Update{
		nil,
		fill(1),
		fill(3),
		changes(has("a", "x"), has("a", "y"), gone("a"), gone("a")),
		fill(6),
		join(fill(6), changes(gone("d0"), gone("d4"), has("e", "x"), has("f", "x"), has("d1", "y"))),
	}
}

func TestLimitsP13_1(t *testing.T) {
	if api.MaxDevices != 6 || api.MaxActs != 100 || api.MaxName != 20 {
		t.Errorf("the limits are %d, %d and %d", api.MaxDevices, api.MaxActs, api.MaxName)
	}
}

// wantId says whether a device may have that name, in each kind of change.
func wantId(t *testing.T, id string, isLocal bool) {
	t.Helper()
	if !isLocal {
		for _, before := range lists() {
			wantError(t, join(before, changes(has(id, "x"))), form)
			wantError(t, join(before, changes(gone(id))), form)
		}
		wantError(t, changes(has(id, "")), form)
		wantError(t, changes(api.Update{Device: device(id, "x"), Gone: true}), form)
		return
	}
	l := changes(has(id, "x"), has(id, "y"), gone(id))
	wantPlay(t, l[:1], numbered(l[:1]...), list(1, device(id, "x")), ok)
	wantPlay(t, l[:2], numbered(l[:2]...), list(2, device(id, "y")), ok)
	wantPlay(t, l, numbered(l...), list(3), ok)
	wantSince(t, l, 1, numbered(l...)[2:], ok)
	wantPlay(t, l[2:], nil, list(0), ok)
}

func TestEachByteOfIdP13_1(t *testing.T) {
	for i := range 256 {
		c := string([]byte{byte(i)})
		isLocal := strings.Contains("abcdefghijklmnopqrstuvwxyz0123456789._=-/", c)
		for _, shape := range []string{"?", "?ab", "a?b", "ab?", strings.Repeat("a", 19) + "?", "?" + strings.Repeat("a", 19)} {
			wantId(t, strings.Replace(shape, "?", c, 1), isLocal)
		}
	}
}

func TestEachLengthOfIdP13_1(t *testing.T) {
	for n := range 50 {
		wantId(t, strings.Repeat("a", n), n > 0 && n <= 20)
		wantId(t, strings.Repeat("/", n), n > 0 && n <= 20)
	}
	for _, n := range []int{255, 256, 257, 276, 600, 65537, 1 << 20} {
		wantError(t, changes(has(strings.Repeat("a", n), "x")), form)
		wantError(t, changes(gone(strings.Repeat("a", n))), form)
	}
	wantError(t, changes(has(strings.Repeat("é", 10), "x")), form)
}

func TestOtherIdsP13_1(t *testing.T) {
	for _, id := range []string{"", " ", "A", "aB", "a:b", "@a", "@a:x", "a ", " a", "a\n", "a\x00", "a+b", "é", "\xff", "ed:A", "a,b", "a~", "a`", "a{", "a^", "a<", "a>"} {
		wantId(t, id, false)
	}
	for _, id := range []string{".", "..", "-", "--", "/", "=", "_", "0", "a.", ".a", "a..b", "a.-b", "a-.b", "a/b", "example.org"} {
		wantId(t, id, true)
	}
}

// A Body has 1 to MaxName bytes, of any kind, unless the device is removed,
// whose Body is not looked at.
func TestEachLengthOfBodyP13_1(t *testing.T) {
	for _, c := range []string{"x", "\xff", "\x00", " ", "A", "0"} {
		for n := range 50 {
			wantBody(t, strings.Repeat(c, n))
		}
	}
	for _, n := range []int{255, 256, 257, 276, 600, 65537, 1 << 20} {
		wantBody(t, strings.Repeat("x", n))
	}

	// Bytes count, not runes.
	wantBody(t, strings.Repeat("é", 10))
	wantBody(t, strings.Repeat("é", 10)+"x")
	wantBody(t, strings.Repeat("é", 11))
}

func TestEachByteOfBodyP13_1(t *testing.T) {
	for i := range 256 {
		wantBody(t, string([]byte{byte(i)}))
		wantBody(t, string([]byte{'a', byte(i), 'b'}))
	}
}

func wantBody(t *testing.T, body string) {
	t.Helper()
	l := changes(has("a", "was"), has("a", body), has("b", body))
	if n := len(body); n > 0 && n <= 20 {
		wantPlay(t, l, numbered(l...), list(3, device("a", body), device("b", body)), ok)
		wantPlay(t, changes(l[1]), numbered(l[1]), list(1, device("a", body)), ok)
	} else {
		wantError(t, l[:2], form)
		wantError(t, l[2:], form)
	}

	// Without the Body where the device is removed.
	for _, removal := range changes(gone("a"), api.Update{Device: device("a", body), Gone: true}) {
		wantPlay(t, changes(l[0], removal), numbered(l[0], gone("a")), list(2), ok)
		wantSince(t, changes(l[0], removal), 0, numbered(l[0], gone("a"))[1:], ok)
		wantPlay(t, changes(removal), nil, list(0), ok)
		wantPlay(t, changes(removal, l[0], removal, removal), numbered(l[0], gone("a")), list(2), ok)
	}
}

func TestMaxActsP13_1(t *testing.T) {
	valid := changes(has("a", "x"), gone("a"), has("a", strings.Repeat("x", 20)))
	for _, c := range valid {
		wantLike(t, slices.Repeat(changes(c), 99))
		wantLike(t, slices.Repeat(changes(c), 100))
	}
	for _, c := range join(valid, changes(has("A", "x"), has("a", ""), gone(""), api.Update{})) {
		for _, n := range []int{101, 102, 128, 200, 256, 257, 100000} {
			wantError(t, slices.Repeat(changes(c), n), size)
		}
	}

	// Each of the changes may have an effect.
	swap := changes(has("a", "x"), gone("a"))
	wantFinal(t, slices.Repeat(swap, 50), 100)
	wantError(t, append(slices.Repeat(swap, 50), swap[0]), size)
	wantPlay(t, slices.Repeat(swap, 50), numbered(slices.Repeat(swap, 50)...), list(100), ok)
	swap[1] = has("a", "y")
	wantPlay(t, slices.Repeat(swap, 50), numbered(slices.Repeat(swap, 50)...), list(100, device("a", "y")), ok)
	wantError(t, join(fill(6), changes(has("x", "x")), slices.Repeat(swap, 47)), size)
}

// The first change with an error says which one it is, also behind as many as
// there may be.
func TestOrderOfErrorsP13_1(t *testing.T) {
	bad := changes(has("A", "x"), has("", "x"), gone("A"), has("a", ""), has("a", strings.Repeat("x", 21)), has("d0", ""), has("A", ""), api.Update{})
	for _, c := range bad {
		for _, before := range lists() {
			wantError(t, join(before, changes(c)), form)
			wantError(t, join(before, changes(c), fill(7)), form)
		}

		// The form of a change is looked at before the number of devices.
		wantError(t, join(fill(6), changes(c)), form)
		wantError(t, join(fill(6), changes(c, has("e", "x"))), form)
		wantError(t, join(fill(6), changes(has("e", "x"), c)), full)
		wantError(t, join(fill(7), changes(c)), full)
		wantError(t, join(fill(5), changes(c), fill(7)), form)

		// At the last one of as many as there may be, and one behind it.
		many := slices.Repeat(changes(has("d0", "x")), 99)
		wantError(t, join(many, changes(c)), form)
		wantError(t, join(many, changes(has("d0", "x"), c)), size)
		wantError(t, join(changes(c), many), form)
		wantError(t, join(changes(c), many, fill(1)), size)
		wantError(t, join(many[6:], fill(6), changes(c)), form)
		wantError(t, join(fill(6), changes(has("e", "x")), many[7:], changes(c)), full)
		wantError(t, join(fill(6), changes(has("e", "x")), many[6:], changes(c)), size)
	}
	wantError(t, join(slices.Repeat(changes(has("d0", "x")), 94), fill(7)[1:]), full)
	wantError(t, join(slices.Repeat(changes(has("d0", "x")), 95), fill(7)[1:]), size)
}
