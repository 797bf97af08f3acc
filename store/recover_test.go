package store

import (
	"math/rand"
	"slices"
	"strconv"
	"testing"

	"bagnall/api"
)

func TestNothingP10_1(t *testing.T) {
	wantRecover(t, nil, nil, 0, ok)
	wantRecover(t, []byte{}, nil, 0, ok)
}

func TestWholeFilesP10_1(t *testing.T) {
	for _, c := range []struct {
		batches [][]api.Row
		want    []api.Row
	}{
		{[][]api.Row{table("a", "1")}, table("a", "1")},
		{[][]api.Row{table("b", "1", "a", "2")}, table("a", "2", "b", "1")},
		{[][]api.Row{table("b", "1"), table("a", "2")}, table("a", "2", "b", "1")},
		{[][]api.Row{table("a", "1", "a", "2")}, table("a", "2")},
		{[][]api.Row{table("a", "1"), table("a", "2")}, table("a", "2")},
		{[][]api.Row{table("a", "1", "a", "")}, nil},
		{[][]api.Row{table("a", "", "a", "1")}, table("a", "1")},
		{[][]api.Row{table("a", "1", "a", "", "a", "2")}, table("a", "2")},
		{[][]api.Row{table("a", "1", "a", "2", "a", "")}, nil},
		{[][]api.Row{table("a", "1"), table("a", "")}, nil},
		{[][]api.Row{table("a", ""), table("a", "1")}, table("a", "1")},
		{[][]api.Row{table("a", ""), table("b", "")}, nil},
		{[][]api.Row{table("a", "1", "b", "2"), table("b", "", "c", "3"), table("a", "4")}, table("a", "4", "c", "3")},
		{[][]api.Row{table("ab", "1", "a", "b1")}, table("a", "b1", "ab", "1")},
		{[][]api.Row{table("\xff", "\x00", "\x00", "\xff")}, table("\x00", "\xff", "\xff", "\x00")},
		{[][]api.Row{table(long(20), long(20), long(19), "")}, table(long(20), long(20))},
	} {
		b := fileOf(c.batches...)
		wantRecover(t, b, c.want, len(b), ok)
		wantRecoverLike(t, b)
	}
}

// Of a file that ends early, the batches ahead of the end count.
func TestEveryPrefixP10_1(t *testing.T) {
	batches := [][]api.Row{
		table("a", "1", "b", "2"), table("b", ""), table("c", "3", "a", "", "d", "4"), table("a", "5"), manyRows(0, 20), removals(manyRows(0, 20)),
	}
	tables := [][]api.Row{
		nil, table("a", "1", "b", "2"), table("a", "1"), table("c", "3", "d", "4"), table("a", "5", "c", "3", "d", "4"),
		join(manyRows(0, 20), table("a", "5", "c", "3", "d", "4")), table("a", "5", "c", "3", "d", "4"),
	}
	whole := fileOf(batches...)
	for n := range len(whole) + 1 {
		complete := 0
		for complete < len(batches) && len(fileOf(batches[:complete+1]...)) <= n {
			complete++
		}
		wantRecover(t, whole[:n], tables[complete], len(fileOf(batches[:complete]...)), ok)
	}
	// Bytes that are no frame behind it change nothing.
	for _, rest := range [][]byte{{0}, {1}, {61, 1}, {255}, {3, 1, 1, 97, 49, 156, 30}, {3, 2, 1, 97, 49, 157, 33}, {0, 1, 3, 5}, {1, 1, 0, 5}} {
		wantRecover(t, slices.Concat(whole, rest), tables[6], len(whole), ok)
		wantRecover(t, rest, nil, 0, ok)
	}
}

// A byte is changed to every other value, in files of one and of three batches.
func TestByteChangedP10_1(t *testing.T) {
	first := table("a", "1", "b", "2")
	b := fileOf(first, table("b", "", "c", "3"), table("a", "4"))
	ahead := len(fileOf(first))
	behind := len(fileOf(first, table("b", "", "c", "3")))
	for at := range b {
		for value := range 256 {
			changed := slices.Clone(b)
			changed[at] = byte(value)
			wantRecoverLike(t, changed)
			// A sum does not notice a record's byte that differs by 251.
			if diff := value - int(b[at]); diff == 0 || diff == 251 || diff == -251 {
				continue
			}
			switch {
			case at < ahead:
				wantRecover(t, changed, nil, 0, ok)
			case at < behind:
				wantRecover(t, changed, first, ahead, ok)
			default:
				wantRecover(t, changed, table("a", "1", "c", "3"), behind, ok)
			}
		}
	}
}

func TestSizeP10_1(t *testing.T) {
	wantRecover(t, make([]byte, 1200), nil, 0, ok)
	wantRecover(t, make([]byte, 1201), nil, 0, size)
	wantRecover(t, make([]byte, 1<<16+1), nil, 0, size)
	put := fileOf(table("a", "1")) // 7 bytes
	last := table("b", "12345")    // 11 bytes
	b := slices.Concat(slices.Repeat(put, 168), fileOf(table("c", "")), put, fileOf(last))
	if len(b) != 1200 {
		t.Fatalf("the file has %d bytes", len(b))
	}
	wantRecover(t, b, table("a", "1", "b", "12345"), 1200, ok)
	wantRecover(t, b[:1199], table("a", "1"), 1189, ok)
	for _, rest := range [][]byte{{0}, {3}, put} {
		wantRecover(t, slices.Concat(b, rest), nil, 0, size)
	}
	// The number of bytes is checked first.
	bad := batchOf([]byte{0, 'a'})
	wantRecover(t, slices.Concat(bad, make([]byte, 1200-len(bad))), nil, 0, form)
	wantRecover(t, slices.Concat(bad, make([]byte, 1201-len(bad))), nil, 0, size)
}

// wantForm says that a record is no change, wherever it stands in a complete
// batch, and that it does not matter where the batch is not complete.
func wantForm(t *testing.T, record []byte) {
	t.Helper()
	a, b := recordOf(api.Row{Key: "a", Value: "1"}), recordOf(api.Row{Key: "b", Value: "2"})
	good := batchOf(a)
	for _, batch := range [][]byte{batchOf(record), batchOf(record, a), batchOf(a, record), batchOf(a, record, b), batchOf(record, record)} {
		wantRecover(t, batch, nil, 0, form)
		wantRecover(t, slices.Concat(good, batch), nil, 0, form)
		wantRecover(t, slices.Concat(batch, good), nil, 0, form)
		wantRecover(t, slices.Concat(good, batch, good), nil, 0, form)
		wantRecover(t, slices.Concat(batch, []byte{0}), nil, 0, form)
		wantRecover(t, batch[:len(batch)-1], nil, 0, ok)
		wantRecover(t, slices.Concat(good, batch[:len(batch)-1]), table("a", "1"), len(good), ok)
	}
	frame := frameOf(0, record)
	wantRecover(t, frame, nil, 0, ok)
	wantRecover(t, slices.Concat(good, frame), table("a", "1"), len(good), ok)
	wantRecover(t, slices.Concat(good, frame, good), nil, 0, form)
}

// Every first byte with every length of a record.
func TestFormP10_1(t *testing.T) {
	for first := range 256 {
		for n := 1; n <= 60; n++ {
			record := []byte(long(n))
			record[0] = byte(first)
			wantRecoverLike(t, batchOf(record))
			value := n - 1 - first
			if first >= 1 && first <= 20 && value >= 0 && value <= 20 {
				var want []api.Row
				if value > 0 {
					want = table(long(first), long(value))
				}
				wantRecover(t, batchOf(record), want, n+4, ok)
			} else {
				wantRecover(t, batchOf(record), nil, 0, form)
			}
		}
	}
}

func TestFormAtEveryPlaceP10_1(t *testing.T) {
	for _, record := range [][]byte{
		{0}, {0, 'a'}, {0, 'a', '1'}, {1}, {2}, {2, 'a'}, {20}, append([]byte{20}, long(19)...), {21}, append([]byte{21}, long(21)...), append([]byte{21}, long(22)...),
		append([]byte{1}, long(22)...), append([]byte{20}, long(39+2)...), append([]byte{20}, long(59)...), append([]byte{59}, long(59)...), {255}, {128, 'a'},
	} {
		wantForm(t, record)
	}
	// Also if a later change makes the row anew or removes it.
	wantRecover(t, fileOf(table("a", "1", "a", long(21), "a", "2")), nil, 0, form)
	wantRecover(t, fileOf(table("a", long(21)), table("a", "")), nil, 0, form)
	wantRecover(t, fileOf(table("", "1")), nil, 0, form)
	wantRecover(t, fileOf(table(long(21), "1")), nil, 0, form)
	wantRecover(t, fileOf(table(long(21), "")), nil, 0, form)
}

// A table may have up to MaxRows rows after each batch.
func TestNumberOfRowsP10_1(t *testing.T) {
	for n := 1; n <= 42; n++ {
		one := fileOf(manyRows(0, n))
		each := make([][]api.Row, n)
		for i := range n {
			each[i] = manyRows(i, 1)
		}
		if n <= 40 {
			wantRecover(t, one, manyRows(0, n), len(one), ok)
			wantRecover(t, fileOf(each...), manyRows(0, n), len(one), ok)
		} else {
			wantRecover(t, one, nil, 0, form)
			wantRecover(t, fileOf(each...), nil, 0, form)
		}
	}
	whole, more := manyRows(0, 40), manyRows(40, 1)
	b := fileOf(whole)
	for _, c := range []struct {
		batches [][]api.Row
		want    []api.Row
		code    api.Errno
	}{
		{[][]api.Row{whole, more}, nil, form},
		{[][]api.Row{whole, more, removals(more)}, nil, form},
		{[][]api.Row{whole, more, removals(whole)}, nil, form},
		{[][]api.Row{whole, join(more, removals(more))}, whole, ok},
		{[][]api.Row{whole, join(more, removals(whole[:1]))}, manyRows(1, 40), ok},
		{[][]api.Row{whole, join(removals(whole[:1]), more)}, manyRows(1, 40), ok},
		{[][]api.Row{whole, removals(whole[:1]), more}, manyRows(1, 40), ok},
		{[][]api.Row{whole, join(more, removals(whole[:1]), whole[:1])}, nil, form},
		{[][]api.Row{whole, table("00", "new")}, join(table("00", "new"), whole[1:]), ok},
		{[][]api.Row{whole, table("x", "")}, whole, ok},
		{[][]api.Row{manyRows(0, 30), manyRows(20, 20)}, whole, ok},
		{[][]api.Row{manyRows(0, 30), manyRows(20, 21)}, nil, form},
	} {
		file := fileOf(c.batches...)
		used := len(file)
		if c.code != ok {
			used = 0
		}
		wantRecover(t, file, c.want, used, c.code)
		wantRecoverLike(t, file)
	}
	// A batch that is not complete takes no row.
	file := fileOf(whole, more)
	wantRecover(t, file[:len(file)-1], whole, len(b), ok)
	wantRecover(t, slices.Concat(b, frameOf(0, recordOf(more[0]))), whole, len(b), ok)
}

// A file may have a batch with more records than one commit has changes, and
// with more rows in between than a table has. (The keys have one byte, so that
// it fits.)
func TestLongBatchesP10_1(t *testing.T) {
	short := func(start, n int, value string) []api.Row {
		var l []api.Row
		for i := range n {
			l = append(l, api.Row{Key: string([]byte{byte(start + i)}), Value: value})
		}
		return l
	}
	for n := 55; n <= 170; n++ {
		b := fileOf(slices.Repeat(table("a", "1"), n))
		wantRecover(t, b, table("a", "1"), len(b), ok)
		b = fileOf(join(slices.Repeat(table("a", "1"), n), table("b", "2")))
		wantRecover(t, b, table("a", "1", "b", "2"), len(b), ok)
		b = fileOf(join(table("b", "2"), removals(short(0, n, "")), table("a", "1")))
		wantRecoverLike(t, b)
	}
	for n := range 80 {
		// n rows, of which those up to the number stay are removed.
		for _, stay := range []int{0, 1, 39, 40, 41} {
			if stay > n {
				continue
			}
			puts, rest := short(100, n, "v"), short(100, stay, "v")
			away := removals(short(100+stay, n-stay, ""))
			slices.Reverse(away)
			for _, changes := range [][]api.Row{join(puts, away), join(away, puts[:stay])} {
				if len(changes) == 0 {
					continue
				}
				b := fileOf(changes)
				if stay <= 40 {
					wantRecover(t, b, rest, len(b), ok)
				} else {
					wantRecover(t, b, nil, 0, form)
				}
			}
		}
	}
	// Whole tables are exchanged within one batch.
	first, second := short(0, 40, "1"), short(40, 40, "2")
	for _, changes := range [][]api.Row{join(first, second, removals(first)), join(first, removals(first), second)} {
		b := fileOf(changes)
		wantRecover(t, b, second, len(b), ok)
	}
	b := fileOf(first, join(second, removals(first)))
	wantRecover(t, b, second, len(b), ok)
	b = fileOf(first, join(second, removals(first[1:])))
	wantRecover(t, b, nil, 0, form)
	wantRecover(t, fileOf(removals(short(0, 200, ""))), nil, 1200, ok)
}

// randomChange is a change of one of a few keys, or of many if wide.
func randomChange(r *rand.Rand, wide bool) api.Row {
	c := api.Row{Key: strconv.Itoa(r.Intn(6))}
	if wide {
		c.Key = numbered(r.Intn(60))
	}
	if r.Intn(3) > 0 {
		c.Value = strconv.Itoa(r.Intn(100))
	}
	return c
}

func TestRandomFilesP10_1(t *testing.T) {
	r := rand.New(rand.NewSource(1))
	for i := range 20000 {
		var b []byte
		for range r.Intn(12) {
			var batch [][]byte
			for range 1 + r.Intn(1+r.Intn(50)) {
				record := recordOf(randomChange(r, i%2 == 0))
				if r.Intn(400) == 0 {
					record[0] += byte(r.Intn(3) - 1)
				}
				batch = append(batch, record)
			}
			b = append(b, batchOf(batch...)...)
		}
		if len(b) > 0 && i%3 == 0 {
			b[r.Intn(len(b))] += byte(r.Intn(256))
		}
		if i%5 == 0 {
			b = b[:r.Intn(len(b)+1)]
		}
		wantRecoverLike(t, b)
	}
}

func FuzzRecoverP10_1(f *testing.F) {
	f.Add(fileOf(table("a", "1", "b", "2"), table("a", "")), false)
	f.Add(fileOf(manyRows(0, 41)), false)
	f.Add([]byte{2, 1, 'a', 3, 1, 'b', '1', 22}, true)
	f.Fuzz(func(t *testing.T, b []byte, frames bool) {
		if frames {
			b = framed(b)
		}
		wantRecoverLike(t, b)
	})
}

// framed makes records of bytes, so that their sums are right: ahead of each
// is its length, and 64 more if it is the last of a batch.
func framed(b []byte) []byte {
	var file []byte
	for len(b) > 0 {
		n := min(int(b[0]%64), len(b)-1)
		file = append(file, frameOf(int(b[0]/64%2), b[1:1+n])...)
		b = b[1+n:]
	}
	return file
}
