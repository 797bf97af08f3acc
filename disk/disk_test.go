package disk

import (
	"bytes"
	"math"
	"math/rand"
	"slices"
	"testing"

	"bagnall/api"
)

const (
	ok   = api.OK
	rang = api.ErrRange
	kind = api.ErrKind
	full = api.ErrFull
)

func write(data ...byte) api.Move { return api.Move{Kind: api.Write, Data: data} }
func sync() api.Move              { return api.Move{Kind: api.Sync} }
func trim(n int) api.Move         { return api.Move{Kind: api.Trim, N: n} }
func fall(n int) api.Move         { return api.Move{Kind: api.Fall, N: n} }

// writeMany writes n bytes that differ from their neighbours, the first of
// them start.
func writeMany(start, n int) api.Move { return write(many(start, n)...) }

func many(start, n int) []byte {
	b := make([]byte, n)
	for i := range b {
		b[i] = byte(start + i)
	}
	return b
}

func cloneMoves(l []api.Move) []api.Move {
	c := slices.Clone(l)
	for i := range c {
		c[i].Data = slices.Clone(c[i].Data)
	}
	return c
}

func sameMove(a, b api.Move) bool {
	return a.Kind == b.Kind && a.N == b.N && bytes.Equal(a.Data, b.Data)
}

// like executes the moves by the document's words, byte by byte: each byte of
// the disk says whether it is synced.
func like(l []api.Move) (codes []api.Errno, left []byte, synced int, e api.Errno) {
	if len(l) > api.MaxActs {
		return nil, nil, 0, api.ErrSize
	}
	type cell struct {
		b      byte
		synced bool
	}
	var cells []cell
	for _, m := range l {
		code := ok
		switch {
		case m.Kind == api.Write && len(cells)+len(m.Data) > api.MaxDisk:
			code = full
		case m.Kind == api.Write:
			for _, b := range m.Data {
				cells = append(cells, cell{b: b})
			}
		case m.Kind == api.Trim && (m.N < 0 || m.N > len(cells)), m.Kind == api.Fall && m.N < 0:
			code = rang
		case m.Kind == api.Sync, m.Kind == api.Trim, m.Kind == api.Fall:
			var rest []cell
			unsynced := 0
			for i, c := range cells {
				stays := m.Kind == api.Sync || m.Kind == api.Trim && i < m.N || m.Kind == api.Fall && (c.synced || unsynced < m.N)
				if !c.synced {
					unsynced++
				}
				if stays {
					rest = append(rest, cell{b: c.b, synced: true})
				}
			}
			cells = rest
		default:
			code = kind
		}
		codes = append(codes, code)
	}
	for _, c := range cells {
		left = append(left, c.b)
		if c.synced {
			synced++
		}
	}
	return codes, left, synced, ok
}

// wantAll says what both functions return for l, and that l stays as it is.
func wantAll(t *testing.T, l []api.Move, codes []api.Errno, left []byte, synced int, code api.Errno) {
	t.Helper()
	was := cloneMoves(l)
	if c, b, e := Play(l); !slices.Equal(c, codes) || !bytes.Equal(b, left) || e != code {
		t.Errorf("Play(%v): %v %v %d, want %v %v %d", l, c, b, e, codes, left, code)
	}
	if a, s, e := Held(l); a != len(left) || s != synced || e != code {
		t.Errorf("Held(%v): %d %d %d, want %d %d %d", l, a, s, e, len(left), synced, code)
	}
	if !slices.EqualFunc(l, was, sameMove) {
		t.Errorf("the moves became %v, they were %v", l, was)
	}
}

// wantLast says what both functions return if all moves but the last one have
// no error and the last one has this code.
func wantLast(t *testing.T, l []api.Move, code api.Errno, left []byte, synced int) {
	t.Helper()
	codes := make([]api.Errno, len(l))
	codes[len(l)-1] = code
	wantAll(t, l, codes, left, synced, ok)
}

// wantLike says that both functions agree with like.
func wantLike(t *testing.T, l []api.Move) {
	t.Helper()
	codes, left, synced, e := like(l)
	wantAll(t, l, codes, left, synced, e)
}

func TestExamplesP7_1P7_2(t *testing.T) {
	wantAll(t, []api.Move{write(7, 8, 9), fall(1)}, []api.Errno{ok, ok}, []byte{7}, 1, ok)
	wantAll(t, []api.Move{write(7, 8, 9)}, []api.Errno{ok}, []byte{7, 8, 9}, 0, ok)
	l := []api.Move{write(1, 2), sync(), write(3, 4, 5), fall(1), fall(0), write(6), trim(9), {Kind: 5}, fall(-1)}
	wantAll(t, l, []api.Errno{ok, ok, ok, ok, ok, ok, rang, kind, rang}, []byte{1, 2, 3, 6}, 3, ok)
}

func TestNoMovesP7_1P7_2(t *testing.T) {
	wantAll(t, nil, nil, nil, 0, ok)
	wantAll(t, []api.Move{}, nil, nil, 0, ok)
}

func TestEmptyDiskP7_1P7_2(t *testing.T) {
	wantLast(t, []api.Move{sync()}, ok, nil, 0)
	wantLast(t, []api.Move{trim(0)}, ok, nil, 0)
	wantLast(t, []api.Move{trim(1)}, rang, nil, 0)
	wantLast(t, []api.Move{trim(-1)}, rang, nil, 0)
	wantLast(t, []api.Move{fall(0)}, ok, nil, 0)
	wantLast(t, []api.Move{fall(1)}, ok, nil, 0)
	wantLast(t, []api.Move{fall(math.MaxInt)}, ok, nil, 0)
	wantLast(t, []api.Move{fall(-1)}, rang, nil, 0)
}

func TestWriteP7_1P7_2(t *testing.T) {
	wantLast(t, []api.Move{write()}, ok, nil, 0)
	wantLast(t, []api.Move{{Kind: api.Write, Data: []byte{}}}, ok, nil, 0)
	wantLast(t, []api.Move{write(0)}, ok, []byte{0}, 0)
	wantLast(t, []api.Move{write(0, 255)}, ok, []byte{0, 255}, 0)
	wantLast(t, []api.Move{write(3), write(1, 2), write(), write(1)}, ok, []byte{3, 1, 2, 1}, 0)
	wantLast(t, []api.Move{write(3), sync(), write(1, 2)}, ok, []byte{3, 1, 2}, 1)
	wantLast(t, []api.Move{write(3), sync(), write()}, ok, []byte{3}, 1)
}

func TestWriteFullP7_1P7_2(t *testing.T) {
	top := api.MaxDisk
	wantLast(t, []api.Move{writeMany(0, top)}, ok, many(0, top), 0)
	wantLast(t, []api.Move{writeMany(0, top+1)}, full, nil, 0)
	wantLast(t, []api.Move{writeMany(0, 4*top)}, full, nil, 0)
	wantLast(t, []api.Move{writeMany(0, top-1), writeMany(top-1, 1)}, ok, many(0, top), 0)
	wantLast(t, []api.Move{writeMany(0, top-1), writeMany(top-1, 2)}, full, many(0, top-1), 0)
	wantLast(t, []api.Move{writeMany(0, 1), writeMany(1, top-1)}, ok, many(0, top), 0)
	wantLast(t, []api.Move{writeMany(0, 1), writeMany(1, top)}, full, many(0, 1), 0)
	wantLast(t, []api.Move{writeMany(0, top), write()}, ok, many(0, top), 0)
	wantLast(t, []api.Move{writeMany(0, top), write(1)}, full, many(0, top), 0)
	wantLast(t, []api.Move{writeMany(0, top), sync(), write(1)}, full, many(0, top), top)
}

// Room that a trim or a power failure makes can be written again, and a write
// that does not fit takes none.
func TestWriteAfterFullP7_1P7_2(t *testing.T) {
	top := api.MaxDisk
	wantAll(t, []api.Move{writeMany(0, top-2), write(1, 2, 3), write(4, 5), write(6), write()},
		[]api.Errno{ok, full, ok, full, ok}, append(many(0, top-2), 4, 5), 0, ok)
	wantAll(t, []api.Move{writeMany(0, top), trim(top - 1), write(1, 2), write(9)},
		[]api.Errno{ok, ok, full, ok}, append(many(0, top-1), 9), top-1, ok)
	wantAll(t, []api.Move{writeMany(0, top), fall(top - 1), write(1, 2), write(9)},
		[]api.Errno{ok, ok, full, ok}, append(many(0, top-1), 9), top-1, ok)
	wantAll(t, []api.Move{writeMany(0, top), trim(0), writeMany(5, top), write(9)},
		[]api.Errno{ok, ok, ok, full}, many(5, top), 0, ok)
	wantAll(t, []api.Move{writeMany(0, top), fall(0), writeMany(5, top), write(9)},
		[]api.Errno{ok, ok, ok, full}, many(5, top), 0, ok)
	wantAll(t, []api.Move{writeMany(0, top), sync(), fall(0), write(9)},
		[]api.Errno{ok, ok, ok, full}, many(0, top), top, ok)
}

func TestSyncP7_1P7_2(t *testing.T) {
	wantLast(t, []api.Move{write(1, 2), sync()}, ok, []byte{1, 2}, 2)
	wantLast(t, []api.Move{write(1, 2), sync(), sync()}, ok, []byte{1, 2}, 2)
	wantLast(t, []api.Move{write(1, 2), sync(), write(3), sync()}, ok, []byte{1, 2, 3}, 3)
	wantLast(t, []api.Move{write(1, 2), sync(), fall(0)}, ok, []byte{1, 2}, 2)
	wantLast(t, []api.Move{write(1, 2), sync(), write(3), write(4), fall(0)}, ok, []byte{1, 2}, 2)
	wantLast(t, []api.Move{writeMany(0, api.MaxDisk), sync()}, ok, many(0, api.MaxDisk), api.MaxDisk)
}

func TestTrimP7_1P7_2(t *testing.T) {
	for _, before := range [][]api.Move{
		{write(1, 2, 3, 4)},
		{write(1, 2, 3, 4), sync()},
		{write(1, 2), sync(), write(3, 4)},
		{write(1, 2, 3), sync(), write(4, 5), fall(1)},
	} {
		for n := range 5 {
			l := append(slices.Clone(before), trim(n))
			wantLast(t, l, ok, []byte{1, 2, 3, 4}[:n], n)
			// All of them are synced: no failure takes any.
			wantLast(t, append(l, fall(0)), ok, []byte{1, 2, 3, 4}[:n], n)
			wantLast(t, append(l, write(9), fall(0)), ok, []byte{1, 2, 3, 4}[:n], n)
		}
	}
}

func TestTrimErrorP7_1P7_2(t *testing.T) {
	for _, n := range []int{5, 6, api.MaxDisk, api.MaxDisk + 1, math.MaxInt32, 1 << 32, 1<<32 + 3, math.MaxInt - 1, math.MaxInt, -1, -2, -4, -5, math.MinInt32, 3 - 1<<32, math.MinInt + 1, math.MinInt} {
		wantLast(t, []api.Move{write(1, 2, 3, 4), trim(n)}, rang, []byte{1, 2, 3, 4}, 0)
		wantLast(t, []api.Move{write(1, 2), sync(), write(3, 4), trim(n)}, rang, []byte{1, 2, 3, 4}, 2)
		wantLast(t, []api.Move{write(1, 2, 3, 4), sync(), trim(n)}, rang, []byte{1, 2, 3, 4}, 4)
		wantLast(t, []api.Move{trim(n)}, rang, nil, 0)
	}
	wantLast(t, []api.Move{writeMany(0, api.MaxDisk), trim(api.MaxDisk)}, ok, many(0, api.MaxDisk), api.MaxDisk)
	wantLast(t, []api.Move{writeMany(0, api.MaxDisk), trim(api.MaxDisk + 1)}, rang, many(0, api.MaxDisk), 0)
	// What was trimmed is no more there to be kept.
	wantLast(t, []api.Move{write(1, 2, 3, 4), trim(2), trim(3)}, rang, []byte{1, 2}, 2)
	wantLast(t, []api.Move{write(1, 2, 3, 4), fall(2), trim(3)}, rang, []byte{1, 2}, 2)
}

func TestFallP7_1P7_2(t *testing.T) {
	for n := range 5 {
		wantLast(t, []api.Move{write(1, 2, 3, 4), fall(n)}, ok, []byte{1, 2, 3, 4}[:n], n)
	}
	for n := range 3 {
		wantLast(t, []api.Move{write(1, 2), sync(), write(3, 4), fall(n)}, ok, []byte{1, 2, 3, 4}[:2+n], 2+n)
		wantLast(t, []api.Move{write(1, 2), sync(), write(3), write(4), fall(n)}, ok, []byte{1, 2, 3, 4}[:2+n], 2+n)
	}
	for _, n := range []int{5, 6, api.MaxDisk, api.MaxDisk + 1, math.MaxInt32, 1 << 32, math.MaxInt - 4, math.MaxInt - 3, math.MaxInt - 2, math.MaxInt - 1, math.MaxInt} {
		wantLast(t, []api.Move{write(1, 2, 3, 4), fall(n)}, ok, []byte{1, 2, 3, 4}, 4)
		wantLast(t, []api.Move{write(1, 2), sync(), write(3, 4), fall(n)}, ok, []byte{1, 2, 3, 4}, 4)
		wantLast(t, []api.Move{write(1, 2, 3, 4), sync(), fall(n)}, ok, []byte{1, 2, 3, 4}, 4)
	}
	// What remains is synced: the next failure takes none of it.
	wantLast(t, []api.Move{write(1, 2, 3, 4), fall(2), fall(0)}, ok, []byte{1, 2}, 2)
	wantLast(t, []api.Move{write(1, 2, 3, 4), fall(2), fall(2)}, ok, []byte{1, 2}, 2)
	wantLast(t, []api.Move{write(1, 2, 3, 4), fall(2), write(5, 6), fall(1)}, ok, []byte{1, 2, 5}, 3)
	wantLast(t, []api.Move{write(1, 2, 3, 4), trim(2), write(5, 6), fall(1)}, ok, []byte{1, 2, 5}, 3)
}

func TestFallErrorP7_1P7_2(t *testing.T) {
	for _, n := range []int{-1, -2, -3, -4, -5, math.MinInt32, 3 - 1<<32, math.MinInt + 1, math.MinInt} {
		wantLast(t, []api.Move{write(1, 2, 3, 4), fall(n)}, rang, []byte{1, 2, 3, 4}, 0)
		wantLast(t, []api.Move{write(1, 2), sync(), write(3, 4), fall(n)}, rang, []byte{1, 2, 3, 4}, 2)
		wantLast(t, []api.Move{write(1, 2, 3, 4), sync(), fall(n)}, rang, []byte{1, 2, 3, 4}, 4)
		wantLast(t, []api.Move{fall(n)}, rang, nil, 0)
	}
}

// An unknown kind is the error whatever the other fields say, and nothing
// happens.
func TestKindsP7_1P7_2(t *testing.T) {
	for _, k := range []int{0, 5, 6, -1, -2, -3, -4, 1<<8 + 1, 1<<32 + 1, 1<<32 + 3, math.MaxInt, math.MinInt, math.MinInt + 1} {
		for _, m := range []api.Move{
			{Kind: k},
			{Kind: k, N: -1},
			{Kind: k, N: 1},
			{Kind: k, N: math.MaxInt},
			{Kind: k, Data: []byte{9}},
			{Kind: k, Data: make([]byte, api.MaxDisk+1), N: math.MinInt},
		} {
			wantLast(t, []api.Move{m}, kind, nil, 0)
			wantLast(t, []api.Move{write(1, 2), sync(), write(3), m}, kind, []byte{1, 2, 3}, 2)
		}
	}
	if kinds := []int{api.Write, api.Sync, api.Trim, api.Fall}; !slices.Equal(kinds, []int{1, 2, 3, 4}) {
		t.Errorf("the kinds are %v", kinds)
	}
}

func TestUnusedFieldsP7_1P7_2(t *testing.T) {
	datas := [][]byte{nil, {}, {9}, {9, 9, 9}, make([]byte, api.MaxDisk+1)}
	numbers := []int{0, 1, 2, 3, 4, -1, api.MaxDisk + 1, math.MaxInt, math.MinInt}
	before := []api.Move{write(1, 2), sync(), write(3, 4)}
	for _, n := range numbers {
		wantLast(t, append(slices.Clone(before), api.Move{Kind: api.Write, Data: []byte{5}, N: n}), ok, []byte{1, 2, 3, 4, 5}, 2)
		wantLast(t, append(slices.Clone(before), api.Move{Kind: api.Write, Data: make([]byte, api.MaxDisk), N: n}), full, []byte{1, 2, 3, 4}, 2)
		for _, data := range datas {
			wantLast(t, append(slices.Clone(before), api.Move{Kind: api.Sync, Data: data, N: n}), ok, []byte{1, 2, 3, 4}, 4)
		}
	}
	for _, data := range datas {
		wantLast(t, append(slices.Clone(before), api.Move{Kind: api.Trim, Data: data, N: 1}), ok, []byte{1}, 1)
		wantLast(t, append(slices.Clone(before), api.Move{Kind: api.Trim, Data: data, N: 5}), rang, []byte{1, 2, 3, 4}, 2)
		wantLast(t, append(slices.Clone(before), api.Move{Kind: api.Fall, Data: data, N: 1}), ok, []byte{1, 2, 3}, 3)
		wantLast(t, append(slices.Clone(before), api.Move{Kind: api.Fall, Data: data, N: -1}), rang, []byte{1, 2, 3, 4}, 2)
	}
}

// A move with an error has no effect on those after it.
func TestErrorsHaveNoEffectP7_1P7_2(t *testing.T) {
	good := []api.Move{write(1, 2), sync(), write(3, 4, 5), fall(2), write(6, 7), trim(5), write(8), write(9)}
	bad := []api.Move{writeMany(0, api.MaxDisk+1), writeMany(0, api.MaxDisk), trim(-1), trim(math.MaxInt), fall(-1), fall(math.MinInt), {}, {Kind: 5, N: 1, Data: []byte{1}}}
	badCodes := []api.Errno{full, full, rang, rang, rang, rang, kind, kind}
	for at := 1; at <= len(good); at++ {
		for i, m := range bad {
			l := slices.Insert(slices.Clone(good), at, m, m)
			codes := slices.Insert(make([]api.Errno, len(good)), at, badCodes[i], badCodes[i])
			wantAll(t, l, codes, []byte{1, 2, 3, 4, 6, 8, 9}, 5, ok)
		}
	}
}

func TestSizeP7_1P7_2(t *testing.T) {
	var l []api.Move
	for i := range api.MaxActs {
		l = append(l, write(byte(i)))
	}
	wantAll(t, l, make([]api.Errno, api.MaxActs), many(0, api.MaxActs), 0, ok)
	wantAll(t, l[1:], make([]api.Errno, api.MaxActs-1), many(1, api.MaxActs-1), 0, ok)
	wantAll(t, append(slices.Clone(l), write(1)), nil, nil, 0, api.ErrSize)
	wantAll(t, append(slices.Clone(l[1:]), sync()), make([]api.Errno, api.MaxActs), many(1, api.MaxActs-1), api.MaxActs-1, ok)
	wantAll(t, append(slices.Clone(l), sync()), nil, nil, 0, api.ErrSize)
	wantAll(t, append(slices.Clone(l), l...), nil, nil, 0, api.ErrSize)
	// Moves that have errors count as the others do, and the error of the call
	// is ahead of theirs.
	wrong := slices.Repeat([]api.Move{{}, trim(1), fall(-1), writeMany(0, api.MaxDisk+1)}, api.MaxActs/4)
	codes := slices.Repeat([]api.Errno{kind, rang, rang, full}, api.MaxActs/4)
	wantAll(t, wrong, codes, nil, 0, ok)
	wantAll(t, append(slices.Clone(wrong), api.Move{}), nil, nil, 0, api.ErrSize)
	wantAll(t, make([]api.Move, api.MaxActs+1), nil, nil, 0, api.ErrSize)
	wantAll(t, make([]api.Move, 1<<16), nil, nil, 0, api.ErrSize)
}

// All sequences of these moves, up to a length.
func TestEveryShortSequenceP7_1P7_2(t *testing.T) {
	moves := []api.Move{write(), write(1), write(2, 3), writeMany(4, api.MaxDisk-1), sync(), trim(0), trim(1), trim(3), fall(0), fall(1), fall(2), {}}
	var try func(l []api.Move, more int)
	try = func(l []api.Move, more int) {
		wantLike(t, l)
		if more == 0 || t.Failed() {
			return
		}
		for _, m := range moves {
			try(append(slices.Clone(l), m), more-1)
		}
	}
	try(nil, 4)
}

func randomMove(r *rand.Rand, big int) api.Move {
	m := api.Move{Kind: 1 + r.Intn(4), N: r.Intn(big)}
	if r.Intn(3) > 0 {
		m.Kind = api.Write
	}
	m.Data = make([]byte, r.Intn(big))
	r.Read(m.Data)
	switch r.Intn(12) {
	case 0:
		m.N = -m.N
	case 1:
		m.N = []int{math.MaxInt, math.MinInt, api.MaxDisk, api.MaxDisk + 1}[r.Intn(4)]
	case 2:
		m.Kind = r.Intn(8) - 2
	case 3:
		// A trim that is often in range.
		m.N *= 10
	}
	return m
}

func TestRandomMovesP7_1P7_2(t *testing.T) {
	r := rand.New(rand.NewSource(7))
	seen := map[api.Errno]int{}
	filled, partly := 0, 0
	for range 20000 {
		big := []int{2, 5, 20, 100, 700, 1300}[r.Intn(6)]
		l := make([]api.Move, r.Intn(api.MaxActs+3))
		for i := range l {
			l[i] = randomMove(r, big)
		}
		wantLike(t, l)
		if t.Failed() {
			return
		}
		codes, left, synced, e := like(l)
		for _, code := range append(codes, e) {
			seen[code]++
		}
		if len(left) == api.MaxDisk {
			filled++
		}
		if 0 < synced && synced < len(left) {
			partly++
		}
	}
	for _, code := range []api.Errno{ok, full, rang, kind, api.ErrSize} {
		if seen[code] < 50 {
			t.Errorf("the code %d was returned %d times", code, seen[code])
		}
	}
	if partly < 1000 {
		t.Errorf("%d disks were partly synced, %d were full", partly, filled)
	}
}

// Every possible length at a power failure, for every number of synced bytes
// of a small log.
func TestEveryFallP7_1P7_2(t *testing.T) {
	for before := range 8 {
		for after := range 8 {
			for n := -2; n < 12; n++ {
				wantLike(t, []api.Move{writeMany(1, before), sync(), writeMany(101, after), fall(n), write(200), fall(0)})
				wantLike(t, []api.Move{writeMany(1, before), sync(), writeMany(101, after), trim(n), write(200), fall(0)})
			}
		}
	}
}

// marked is a list of bytes with spare capacity that has marks in it.
func marked(b ...byte) (list, whole []byte) {
	whole = append(slices.Clone(b), 0xEE, 0xEE, 0xEE, 0xEE, 0xEE, 0xEE, 0xEE, 0xEE)
	return whole[:len(b)], whole
}

func TestArgumentsStayP7_1P7_2(t *testing.T) {
	first, firstWhole := marked(1, 2, 3)
	second, secondWhole := marked(4, 5)
	none, noneWhole := marked()
	l := []api.Move{write(none...), write(first...), write(second...), trim(4), write(second...), sync(), write(first...), fall(1), {Kind: 9, Data: first}, {}, {Kind: 77, N: 77}}
	whole := cloneMoves(l)
	for _, n := range []int{0, 1, 2, 3, 9} {
		Play(l[:n])
		Held(l[:n])
		if !slices.EqualFunc(l, whole, sameMove) {
			t.Errorf("after %d moves they became %v, they were %v", n, l, whole)
		}
	}
	if !bytes.Equal(firstWhole, []byte{1, 2, 3, 0xEE, 0xEE, 0xEE, 0xEE, 0xEE, 0xEE, 0xEE, 0xEE}) ||
		!bytes.Equal(secondWhole, []byte{4, 5, 0xEE, 0xEE, 0xEE, 0xEE, 0xEE, 0xEE, 0xEE, 0xEE}) ||
		!bytes.Equal(noneWhole, bytes.Repeat([]byte{0xEE}, 8)) {
		t.Errorf("the bytes behind the data became %v, %v and %v", firstWhole, secondWhole, noneWhole)
	}
}

// What is returned is new memory, its spare capacity too.
func TestResultsShareNothingP7_1(t *testing.T) {
	for _, rest := range [][]api.Move{nil, {sync()}, {trim(2)}, {trim(3)}, {fall(0)}, {fall(2)}, {trim(0)}, {write(4)}, {trim(1), write(4)}} {
		data, whole := marked(1, 2, 3)
		was := slices.Clone(whole)
		l := append([]api.Move{write(data...)}, rest...)
		keep := cloneMoves(l)
		codes, left, _ := Play(l)
		otherCodes, otherLeft, _ := Play(l)
		wantCodes, wantLeft := slices.Clone(otherCodes), slices.Clone(otherLeft)
		spoil(left, 0xAA)
		spoil(codes, 99)
		if !bytes.Equal(whole, was) || !slices.EqualFunc(l, keep, sameMove) {
			t.Errorf("writing into the result changed the moves %v to %v (%v)", keep, l, whole)
		}
		if !slices.Equal(otherCodes, wantCodes) || !bytes.Equal(otherLeft, wantLeft) {
			t.Errorf("writing into the result changed that of another call")
		}
		spoil(whole, 0xBB)
		if !bytes.Equal(otherLeft, wantLeft) {
			t.Errorf("writing into the data changed the result of Play to %v", otherLeft)
		}
	}
}

// spoil writes v into the whole capacity of the list.
func spoil[T any](list []T, v T) {
	list = list[:cap(list)]
	for i := range list {
		list[i] = v
	}
}

func TestNothingIsKeptP7_1P7_2(t *testing.T) {
	l := []api.Move{write(1, 2), sync(), write(3), fall(0), write(4)}
	for range 3 {
		wantAll(t, l, make([]api.Errno, len(l)), []byte{1, 2, 4}, 2, ok)
		wantAll(t, []api.Move{writeMany(0, api.MaxDisk), sync()}, []api.Errno{ok, ok}, many(0, api.MaxDisk), api.MaxDisk, ok)
		wantAll(t, []api.Move{fall(3)}, []api.Errno{ok}, nil, 0, ok)
		wantAll(t, nil, nil, nil, 0, ok)
	}
}

// movesOf reads moves from any bytes: three of them say kind, number and how
// many bytes are written.
func movesOf(b []byte) []api.Move {
	var l []api.Move
	for len(b) >= 3 && len(l) < api.MaxActs+2 {
		m := api.Move{Kind: int(b[0]%7) - 1, N: int(int8(b[1])) * (1 + int(b[0]/7))}
		if b[1] == 127 {
			m.N = math.MaxInt
		}
		m.Data = many(int(b[1]), int(b[2])*(1+int(b[0]/36)))
		b = b[3:]
		l = append(l, m)
	}
	return l
}

func FuzzLike(f *testing.F) {
	f.Add([]byte{2, 0, 9, 3, 0, 0, 2, 1, 5, 5, 2, 0, 4, 10, 0})
	f.Add(bytes.Repeat([]byte{2, 1, 2}, api.MaxActs+1))
	f.Fuzz(func(t *testing.T, b []byte) {
		if len(b) > 400 {
			return
		}
		wantLike(t, movesOf(b))
	})
}
