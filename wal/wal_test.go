package wal

import (
	"bytes"
	"math/rand"
	"slices"
	"testing"

	"bagnall/api"
)

const (
	ok   = api.OK
	size = api.ErrSize
)

// many is n bytes that differ from their neighbours, the first of them start.
func many(start, n int) []byte {
	b := make([]byte, n)
	for i := range b {
		b[i] = byte(start + i)
	}
	return b
}

func join(parts ...[]byte) []byte { return slices.Concat(parts...) }

func cloneBatch(batch [][]byte) [][]byte {
	c := slices.Clone(batch)
	for i := range c {
		c[i] = slices.Clone(c[i])
	}
	return c
}

func sameBatch(a, b [][]byte) bool { return slices.EqualFunc(a, b, bytes.Equal) }

func sameBatches(a, b [][][]byte) bool { return slices.EqualFunc(a, b, sameBatch) }

// frameOf is a frame with any first and second byte, by the document's words
// but with sums in closed form: after n bytes, s has each byte and 1 once, and t
// those of the k-th byte from the end k times.
func frameOf(first, second int, record ...byte) []byte {
	b := append([]byte{byte(first), byte(second)}, record...)
	s, t := 0, 0
	for i, c := range b {
		s += int(c) + 1
		t += (len(b) - i) * (int(c) + 1)
	}
	return append(b, byte(s%251), byte(t%251))
}

// likePack is the second version of Pack.
func likePack(batch ...[]byte) []byte {
	var b []byte
	for i, record := range batch {
		second := 0
		if i+1 == len(batch) {
			second = 1
		}
		b = append(b, frameOf(len(record), second, record...)...)
	}
	return b
}

// likeScan is the second version of Scan: it makes both frames that the next
// record can have, and looks whether one of them stands there.
func likeScan(b []byte) (batches [][][]byte, used int, e api.Errno) {
	if len(b) > api.MaxDisk {
		return nil, 0, size
	}
	var batch [][]byte
	for at := 0; at < len(b); {
		n := int(b[at])
		if n < 1 || n > 60 || at+n+4 > len(b) {
			break
		}
		record := b[at+2 : at+2+n]
		whole := b[at : at+n+4]
		last := bytes.Equal(whole, frameOf(n, 1, record...))
		if !last && !bytes.Equal(whole, frameOf(n, 0, record...)) {
			break
		}
		at += n + 4
		batch = append(batch, record)
		if last {
			batches, used, batch = append(batches, batch), at, nil
		}
	}
	return batches, used, ok
}

// wantPack says what Pack returns, and that the batch stays as it is.
func wantPack(t *testing.T, batch [][]byte, want []byte, code api.Errno) {
	t.Helper()
	was := cloneBatch(batch)
	if b, e := Pack(batch); !bytes.Equal(b, want) || e != code {
		t.Errorf("Pack(%v): %v %d, want %v %d", batch, b, e, want, code)
	}
	if !sameBatch(batch, was) {
		t.Errorf("Pack: the batch became %v, it was %v", batch, was)
	}
}

// wantScan says what Scan returns, and that the bytes stay as they are.
func wantScan(t *testing.T, b []byte, want [][][]byte, used int, code api.Errno) {
	t.Helper()
	was := slices.Clone(b)
	if got, n, e := Scan(b); !sameBatches(got, want) || n != used || e != code {
		t.Errorf("Scan(%v): %v %d %d, want %v %d %d", was, got, n, e, want, used, code)
	}
	if !bytes.Equal(b, was) {
		t.Errorf("Scan: the bytes became %v, they were %v", b, was)
	}
}

// wantLike says that Scan returns what the second version does.
func wantLike(t *testing.T, b []byte) {
	t.Helper()
	batches, used, e := likeScan(b)
	wantScan(t, b, batches, used, e)
}

// wantBoth says what a batch is packed to, and that it is scanned again.
func wantBoth(t *testing.T, batch [][]byte, packed []byte) {
	t.Helper()
	wantPack(t, batch, packed, ok)
	if len(packed) <= api.MaxDisk {
		wantScan(t, packed, [][][]byte{batch}, len(packed), ok)
	}
}

// Each sum is worked out by hand: s goes 2, 4 over the bytes 1, 1, and t 2, 6.
func TestFramesByHandP8_1P8_2(t *testing.T) {
	for _, frame := range [][]byte{
		{1, 1, 0, 5, 11},
		{1, 1, 1, 6, 12},
		{1, 1, 5, 10, 16},
		{1, 1, 127, 132, 138},
		{1, 1, 128, 133, 139},
		{1, 1, 239, 244, 250},
		{1, 1, 240, 245, 0}, // t comes to 251
		{1, 1, 244, 249, 4},
		{1, 1, 245, 250, 5},
		{1, 1, 246, 0, 6}, // s comes to 251
		{1, 1, 247, 1, 7},
		{1, 1, 250, 4, 10},
		{1, 1, 251, 5, 11},
		{1, 1, 252, 6, 12}, // s comes to 257, more than a byte holds
		{1, 1, 255, 9, 15},
		{2, 1, 0, 0, 7, 21},      // s: 3 5 6 7, t: 3 8 14 21
		{2, 1, 1, 0, 8, 23},      // s: 3 5 7 8, t: 3 8 15 23
		{2, 1, 0, 1, 8, 22},      // s: 3 5 6 8, t: 3 8 14 22
		{2, 1, 6, 7, 20, 40},     // s: 3 5 12 20, t: 3 8 20 40
		{2, 1, 255, 255, 15, 33}, // s: 3 5 10 15, t: 3 8 18 33
		{3, 1, 1, 2, 3, 15, 44},  // s: 4 6 8 11 15, t: 4 10 18 29 44
	} {
		record := frame[2 : len(frame)-2]
		wantBoth(t, [][]byte{record}, frame)
	}
}

func TestBatchesByHandP8_1P8_2(t *testing.T) {
	wantBoth(t, [][]byte{{5}, {6, 7}}, []byte{1, 0, 5, 9, 14, 2, 1, 6, 7, 20, 40})
	wantBoth(t, [][]byte{{6, 7}, {5}}, []byte{2, 0, 6, 7, 19, 37, 1, 1, 5, 10, 16})
	wantBoth(t, [][]byte{{5}, {5}}, []byte{1, 0, 5, 9, 14, 1, 1, 5, 10, 16})
	wantBoth(t, [][]byte{{5}, {5}, {5}}, []byte{1, 0, 5, 9, 14, 1, 0, 5, 9, 14, 1, 1, 5, 10, 16})
	wantBoth(t, [][]byte{{0}, {255}, {246}}, []byte{1, 0, 0, 4, 9, 1, 0, 255, 8, 13, 1, 1, 246, 0, 6})
}

// The longest records. Behind the bytes 60 and 1, s is 63 and t is 124; each 0
// adds 1 to s, and each 255 adds 256, which is 5.
func TestLongRecordsByHandP8_1P8_2(t *testing.T) {
	for _, c := range []struct {
		fill, s, t byte
	}{
		{0, 123, 212},  // 63 + 60, and 124 + 60*63 + 1830 is 22*251 + 212
		{255, 112, 2},  // 63 + 300, and 124 + 60*63 + 5*1830 is 52*251 + 2
		{250, 63, 139}, // 63, and 124 + 60*63 is 15*251 + 139
	} {
		record := bytes.Repeat([]byte{c.fill}, api.MaxRecord)
		wantBoth(t, [][]byte{record}, join([]byte{60, 1}, record, []byte{c.s, c.t}))
	}
}

// Every byte as the only one of a record, and every length of a record.
func TestEveryByteAndLengthP8_1P8_2(t *testing.T) {
	for c := range 256 {
		wantBoth(t, [][]byte{{byte(c)}}, likePack([]byte{byte(c)}))
		wantBoth(t, [][]byte{{byte(c)}, {9, byte(c)}}, likePack([]byte{byte(c)}, []byte{9, byte(c)}))
	}
	for n := 1; n <= api.MaxRecord; n++ {
		for _, start := range []int{0, 1, 100, 200, 251} {
			record := many(start, n)
			packed := likePack(record)
			wantBoth(t, [][]byte{record}, packed)
			if len(packed) != n+4 || int(packed[0]) != n {
				t.Errorf("a record of %d bytes is packed to %v", n, packed)
			}
			wantBoth(t, [][]byte{record, {7}, record}, likePack(record, []byte{7}, record))
		}
	}
}

func TestRecordSizesP8_1(t *testing.T) {
	for _, wrong := range [][]byte{nil, {}, many(0, api.MaxRecord+1), many(0, api.MaxRecord+2), many(0, 255), many(0, 256), many(0, 257), many(0, 256+5), many(0, 1<<16+5)} {
		wantPack(t, [][]byte{wrong}, nil, size)
		wantPack(t, [][]byte{wrong, {1}}, nil, size)
		wantPack(t, [][]byte{{1}, wrong}, nil, size)
		wantPack(t, [][]byte{{1}, wrong, {1}}, nil, size)
		wantPack(t, [][]byte{wrong, wrong}, nil, size)
		// At every place of a batch of the greatest number of records.
		for at := range api.MaxList {
			batch := slices.Repeat([][]byte{{1}}, api.MaxList)
			batch[at] = wrong
			wantPack(t, batch, nil, size)
		}
	}
	if api.MaxRecord != 60 || api.MaxList != 60 {
		t.Errorf("the limits are %d and %d", api.MaxRecord, api.MaxList)
	}
}

func TestBatchSizesP8_1P8_2(t *testing.T) {
	wantPack(t, nil, nil, size)
	wantPack(t, [][]byte{}, nil, size)
	for n := 1; n <= api.MaxList; n++ {
		var small, large [][]byte
		for i := range n {
			small = append(small, []byte{byte(i)})
			large = append(large, many(i, api.MaxRecord))
		}
		wantBoth(t, small, likePack(small...))
		// Pack has no limit on the bytes of all records together.
		wantBoth(t, large, likePack(large...))
	}
	for _, n := range []int{api.MaxList + 1, api.MaxList + 2, 256, 256 + 5, 1 << 16} {
		wantPack(t, slices.Repeat([][]byte{{1}}, n), nil, size)
		wantPack(t, slices.Repeat([][]byte{many(0, api.MaxRecord)}, n), nil, size)
		wantPack(t, make([][]byte, n), nil, size)
	}
	if b, _ := Pack(slices.Repeat([][]byte{many(0, api.MaxRecord)}, api.MaxList)); len(b) != 60*64 {
		t.Errorf("the largest batch has %d bytes", len(b))
	}
}

// Only the last frame of a batch says that it is the last one.
func TestLastP8_1(t *testing.T) {
	for n := 1; n <= api.MaxList; n++ {
		b, _ := Pack(slices.Repeat([][]byte{{7}}, n))
		if len(b) != 5*n {
			t.Fatalf("%d records are packed to %v", n, b)
		}
		for i := range n {
			if last := b[5*i+1] == 1; last != (i == n-1) || b[5*i+1] > 1 {
				t.Errorf("of %d records, the second byte of frame %d is %d", n, i, b[5*i+1])
			}
		}
	}
}

// sample is several batches behind each other.
func sample() [][][]byte {
	return [][][]byte{
		{{5}},
		{{6, 7}, {8}, {0, 0, 0}},
		{{1, 1, 5, 10, 16}}, // a record that is itself like a frame
		{{255}, {251, 0}},
		{{1, 2, 3, 4, 5, 6, 7, 8, 9}},
	}
}

// packedSample is the bytes of the sample, and where each of its batches ends.
func packedSample() (b []byte, ends []int) {
	for _, batch := range sample() {
		b = append(b, likePack(batch...)...)
		ends = append(ends, len(b))
	}
	return b, ends
}

// completeBy is how many batches of the sample end within n bytes, and where
// the last of them does.
func completeBy(ends []int, n int) (count, used int) {
	for _, end := range ends {
		if end <= n {
			count, used = count+1, end
		}
	}
	return count, used
}

func TestSeveralBatchesP8_1P8_2(t *testing.T) {
	var b []byte
	for i, batch := range sample() {
		packed, e := Pack(batch)
		if e != ok {
			t.Errorf("Pack(%v): %d", batch, e)
		}
		b = append(b, packed...)
		wantScan(t, b, sample()[:i+1], len(b), ok)
	}
	wantScan(t, likePack([]byte{1}), [][][]byte{{{1}}}, 5, ok)
	wantScan(t, join(likePack([]byte{1}), likePack([]byte{1})), [][][]byte{{{1}}, {{1}}}, 10, ok)
	wantScan(t, likePack([]byte{1}, []byte{1}), [][][]byte{{{1}, {1}}}, 10, ok)
}

func TestEveryPrefixP8_2(t *testing.T) {
	b, ends := packedSample()
	for n := range len(b) + 1 {
		count, used := completeBy(ends, n)
		wantScan(t, b[:n], sample()[:count], used, ok)
		wantScan(t, slices.Clip(slices.Clone(b[:n])), sample()[:count], used, ok)
		// A byte that is missing at the start is no frame to begin with.
		wantLike(t, b[n:])
	}
	long := likePack(many(0, 60), many(60, 60), many(120, 60))
	for n := range len(long) {
		wantScan(t, long[:n], nil, 0, ok)
	}
}

// Every single byte of the sample, changed to every other value: the batches
// ahead of it stay, and its own is not returned, nor are those behind it.
func TestEveryByteChangedP8_2(t *testing.T) {
	b, ends := packedSample()
	unnoticed := 0
	for at := range b {
		count, used := completeBy(ends, at)
		for c := range 256 {
			if b[at] == byte(c) {
				continue
			}
			changed := slices.Clone(b)
			changed[at] = byte(c)
			wantLike(t, changed)
			// The sums do not tell bytes apart that differ by 251.
			if d := c - int(b[at]); d == 251 || d == -251 {
				unnoticed++
				continue
			}
			wantScan(t, changed, sample()[:count], used, ok)
		}
	}
	if unnoticed == 0 {
		t.Errorf("the sample has no byte that may be another one by 251")
	}
}

// Bytes that differ by 251 have the same sums: the record is what stands there.
func TestSameSumP8_2(t *testing.T) {
	for c := range byte(5) {
		b := []byte{1, 1, c, c + 5, c + 11}
		wantScan(t, b, [][][]byte{{{c}}}, 5, ok)
		b[2] = c + 251
		wantScan(t, b, [][][]byte{{{c + 251}}}, 5, ok)
	}
	// A second byte of 251 or 252 has the sums of 0 or 1, but is neither.
	wantScan(t, []byte{1, 252, 5, 10, 16}, nil, 0, ok)
	wantScan(t, []byte{1, 251, 5, 9, 14, 1, 1, 5, 10, 16}, nil, 0, ok)
}

func TestBytesBehindP8_2(t *testing.T) {
	b, _ := packedSample()
	behind := [][]byte{{0}, {0, 0, 0, 0, 0}, {255}, bytes.Repeat([]byte{255}, 300), {1, 1}, {1, 1, 5}, {1, 1, 5, 10}, {1, 1, 5, 10, 15}, frameOf(1, 0, 9), join(frameOf(1, 0, 9), frameOf(2, 0, 8, 8)), frameOf(0, 1), frameOf(61, 1, many(0, 61)...), frameOf(1, 2, 5)}
	for c := range 256 {
		behind = append(behind, []byte{byte(c)}, []byte{1, byte(c), 2})
	}
	for _, more := range behind {
		wantScan(t, more, nil, 0, ok)
		wantScan(t, join(b, more), sample(), len(b), ok)
		wantScan(t, join(b, more, make([]byte, 200)), sample(), len(b), ok)
	}
}

// Behind a frame that is none, no batch is looked for.
func TestNothingIsSkippedP8_2(t *testing.T) {
	good := likePack([]byte{5})
	for _, bad := range [][]byte{{0}, {0, 0}, {0, 1, 2, 5}, {255}, {1, 1, 5, 10, 15}, {1, 1, 5, 11, 16}, frameOf(0, 1), frameOf(0, 0), frameOf(1, 2, 5), frameOf(61, 1, many(0, 61)...)} {
		wantScan(t, join(bad, good), nil, 0, ok)
		wantScan(t, join(good, bad, good), [][][]byte{{{5}}}, 5, ok)
		// Within a batch, the frames ahead of it are not returned either.
		wantScan(t, join(frameOf(1, 0, 9), bad, good), nil, 0, ok)
		wantScan(t, join(good, frameOf(1, 0, 9), frameOf(1, 0, 8), bad, good), [][][]byte{{{5}}}, 5, ok)
	}
}

// A batch is complete with its last frame only, whatever wrote its frames.
func TestIncompleteBatchP8_2(t *testing.T) {
	open := frameOf(1, 0, 9)
	good := likePack([]byte{5})
	wantScan(t, open, nil, 0, ok)
	wantScan(t, join(open, open, open), nil, 0, ok)
	wantScan(t, join(good, open), [][][]byte{{{5}}}, 5, ok)
	wantScan(t, join(good, open, good), [][][]byte{{{5}}, {{9}, {5}}}, 15, ok)
	wantScan(t, join(open, good, good, open), [][][]byte{{{9}, {5}}, {{5}}}, 15, ok)
}

// Frames with right sums whose length no frame can have.
func TestLengthsP8_2(t *testing.T) {
	good := likePack([]byte{5})
	for n := range 256 {
		record := many(n, n)
		frame := frameOf(n, 1, record...)
		open := frameOf(n, 0, record...)
		if 1 <= n && n <= 60 {
			wantScan(t, join(good, frame, good), [][][]byte{{{5}}, {record}, {{5}}}, 10+len(frame), ok)
			wantScan(t, join(good, open, good), [][][]byte{{{5}}, {record, {5}}}, 10+len(frame), ok)
			continue
		}
		wantScan(t, frame, nil, 0, ok)
		wantScan(t, join(good, frame, good), [][][]byte{{{5}}}, 5, ok)
		wantScan(t, join(good, open, good), [][][]byte{{{5}}}, 5, ok)
	}
	// A length that is not that of the record.
	for n := range 256 {
		for _, record := range [][]byte{{5}, {0, 0}, {1, 1, 5, 10, 16}, many(0, 60)} {
			if n != len(record) {
				wantLike(t, join(frameOf(n, 1, record...), good))
				wantLike(t, join(good, frameOf(n, 0, record...), good, good))
			}
		}
	}
}

// Frames with right sums whose second byte no frame can have.
func TestSecondBytesP8_2(t *testing.T) {
	good := likePack([]byte{5})
	for c := 2; c < 256; c++ {
		for _, record := range [][]byte{{0}, {6, 7}, many(0, 60)} {
			frame := frameOf(len(record), c, record...)
			wantScan(t, frame, nil, 0, ok)
			wantScan(t, join(good, frame, good), [][][]byte{{{5}}}, 5, ok)
			wantScan(t, join(good, frameOf(1, 0, 9), frame, good), [][][]byte{{{5}}}, 5, ok)
		}
	}
}

// Every checksum of two bytes behind a few records: one is right.
func TestChecksumsP8_2(t *testing.T) {
	for _, record := range [][]byte{{5}, {0}, {246}, {240}, {251, 255, 3}, many(7, 60)} {
		frame := frameOf(len(record), 1, record...)
		end := len(frame) - 2
		right := slices.Clone(frame)
		found := 0
		for s := range 256 {
			for c := range 256 {
				frame[end], frame[end+1] = byte(s), byte(c)
				batches, used, e := Scan(frame)
				if bytes.Equal(frame, right) {
					found++
					wantScan(t, frame, [][][]byte{{record}}, len(frame), ok)
				} else if len(batches) != 0 || used != 0 || e != ok {
					t.Errorf("Scan(%v): %v %d %d", frame, batches, used, e)
				}
			}
		}
		if found != 1 {
			t.Errorf("the record %v has %d checksums", record, found)
		}
	}
	// Sums that are right but for a multiple of 251 are not right.
	wantScan(t, []byte{1, 1, 246, 0, 6}, [][][]byte{{{246}}}, 5, ok)
	wantScan(t, []byte{1, 1, 246, 251, 6}, nil, 0, ok)
	wantScan(t, []byte{1, 1, 240, 245, 251}, nil, 0, ok)
	wantScan(t, []byte{1, 1, 251, 5, 11}, [][][]byte{{{251}}}, 5, ok)
	// Nor are they the other way round.
	wantScan(t, []byte{1, 1, 5, 16, 10}, nil, 0, ok)
}

func TestDiskSizeP8_2(t *testing.T) {
	wantScan(t, nil, nil, 0, ok)
	wantScan(t, []byte{}, nil, 0, ok)
	// 240 batches of 5 bytes fill the disk.
	full := slices.Repeat(likePack([]byte{5}), api.MaxDisk/5)
	if len(full) != 1200 {
		t.Fatalf("%d bytes", len(full))
	}
	each := slices.Repeat([][][]byte{{{5}}}, api.MaxDisk/5)
	wantScan(t, full, each, api.MaxDisk, ok)
	wantScan(t, full[:api.MaxDisk-1], each[1:], api.MaxDisk-5, ok)
	// Beyond the limit nothing is read, though only the end of it is too much.
	wantScan(t, append(slices.Clone(full), 0), nil, 0, size)
	wantScan(t, append(slices.Clone(full), 1), nil, 0, size)
	wantScan(t, join(full, full), nil, 0, size)
	wantScan(t, join(likePack([]byte{5}), make([]byte, api.MaxDisk-5)), [][][]byte{{{5}}}, 5, ok)
	wantScan(t, join(likePack([]byte{5}), make([]byte, api.MaxDisk-4)), nil, 0, size)
	// One batch fills it: 18 records of 60 bytes, and one of 44.
	one := slices.Repeat([][]byte{many(3, 60)}, 18)
	one = append(one, many(9, 44))
	wantBoth(t, one, likePack(one...))
	wantScan(t, likePack(one...), [][][]byte{one}, api.MaxDisk, ok)
	wantScan(t, append(likePack(one...), 0), nil, 0, size)
	for _, n := range []int{0, 1, 2, 3, 4, 5, 100, api.MaxDisk - 1, api.MaxDisk} {
		wantScan(t, make([]byte, n), nil, 0, ok)
		wantScan(t, bytes.Repeat([]byte{255}, n), nil, 0, ok)
		wantScan(t, bytes.Repeat([]byte{1}, n), nil, 0, ok)
	}
	for _, n := range []int{api.MaxDisk + 1, api.MaxDisk + 2, 1 << 16, 1 << 20} {
		wantScan(t, make([]byte, n), nil, 0, size)
		wantScan(t, bytes.Repeat([]byte{1}, n), nil, 0, size)
	}
}

// What Pack never returns: a batch of more than MaxList records. Its frames
// are complete, and so is the batch, once its last frame was read.
func TestBatchOfManyRecordsP8_2(t *testing.T) {
	for _, n := range []int{api.MaxList - 1, api.MaxList, api.MaxList + 1, 2 * api.MaxList, api.MaxDisk / 5} {
		records := slices.Repeat([][]byte{{5}}, n)
		b := likePack(records...)
		wantScan(t, b, [][][]byte{records}, 5*n, ok)
		wantScan(t, b[:len(b)-1], nil, 0, ok)
		wantScan(t, slices.Repeat(frameOf(1, 0, 5), n), nil, 0, ok)
	}
}

// All short texts of these bytes, and all of them as the rest of a frame.
func TestEveryShortTextP8_2(t *testing.T) {
	values := []byte{0, 1, 2, 5, 10, 16, 61, 255}
	var each func(b []byte, more int)
	each = func(b []byte, more int) {
		wantLike(t, b)
		if more == 0 || t.Failed() {
			return
		}
		for _, c := range values {
			each(append(slices.Clone(b), c), more-1)
		}
	}
	each(nil, 6)
}

func randomBatch(r *rand.Rand, records, length int) [][]byte {
	batch := make([][]byte, 1+r.Intn(records))
	for i := range batch {
		batch[i] = make([]byte, 1+r.Intn(length))
		r.Read(batch[i])
	}
	return batch
}

func TestRandomBatchesP8_1P8_2(t *testing.T) {
	r := rand.New(rand.NewSource(8))
	for range 3000 {
		var b []byte
		var all [][][]byte
		for {
			batch := randomBatch(r, 1+r.Intn(api.MaxList), 1+r.Intn(api.MaxRecord))
			packed := likePack(batch...)
			wantPack(t, batch, packed, ok)
			if len(b)+len(packed) > api.MaxDisk {
				break
			}
			b, all = append(b, packed...), append(all, batch)
		}
		wantScan(t, b, all, len(b), ok)
		if len(b) == 0 {
			continue
		}
		wantLike(t, b[:r.Intn(len(b))])
		b[r.Intn(len(b))] ^= 1 << r.Intn(8)
		wantLike(t, b)
		if t.Failed() {
			return
		}
	}
}

// Frames of any kind behind each other, most of them good.
func TestRandomFramesP8_2(t *testing.T) {
	r := rand.New(rand.NewSource(88))
	some := 0
	for range 20000 {
		var b []byte
		for range r.Intn(30) {
			record := make([]byte, 1+r.Intn(12))
			r.Read(record)
			first, second := len(record), r.Intn(2)
			switch r.Intn(40) {
			case 0:
				first = r.Intn(256)
			case 1:
				second = r.Intn(256)
			}
			b = append(b, frameOf(first, second, record...)...)
			if r.Intn(40) == 0 {
				b[len(b)-1-r.Intn(2)]++
			}
		}
		wantLike(t, b)
		if _, used, _ := likeScan(b); 0 < used && used < len(b) {
			some++
		}
		if t.Failed() {
			return
		}
	}
	if some < 5000 {
		t.Errorf("only %d texts had batches and more", some)
	}
}

// marked is a list with spare capacity that has marks in it.
func marked[T any](mark T, l ...T) (list, whole []T) {
	whole = slices.Clone(l)
	for range 100 {
		whole = append(whole, mark)
	}
	return whole[:len(l)], whole
}

// spoil writes v into the whole capacity of the list.
func spoil[T any](list []T, v T) {
	list = list[:cap(list)]
	for i := range list {
		list[i] = v
	}
}

func TestArgumentsStayP8_1P8_2(t *testing.T) {
	first, firstWhole := marked[byte](0xEE, 1, 2, 3)
	second, secondWhole := marked[byte](0xEE, 4)
	batch, batchWhole := marked([]byte{0xDD}, first, second, first)
	was := cloneBatch(batchWhole)
	for n := range 5 {
		Pack(batch[:n:cap(batch)])
		if !sameBatch(batchWhole, was) {
			t.Errorf("Pack of %d records: they became %v, they were %v", n, batchWhole, was)
		}
	}
	if !bytes.Equal(firstWhole, append([]byte{1, 2, 3}, bytes.Repeat([]byte{0xEE}, 100)...)) ||
		!bytes.Equal(secondWhole, append([]byte{4}, bytes.Repeat([]byte{0xEE}, 100)...)) {
		t.Errorf("Pack: the bytes behind the records became %v and %v", firstWhole, secondWhole)
	}
	packed, _ := packedSample()
	b, bWhole := marked(0xEE, packed...)
	bWas := slices.Clone(bWhole)
	for n := range len(b) + 1 {
		Scan(b[:n])
		if !bytes.Equal(bWhole, bWas) {
			t.Fatalf("Scan of %d bytes: they became %v, they were %v", n, bWhole, bWas)
		}
	}
}

// What Pack returns is new memory, its spare capacity too.
func TestPackSharesNothingP8_1(t *testing.T) {
	for n := 1; n <= 3; n++ {
		record, whole := marked[byte](0xEE, 1, 2, 3)
		was := slices.Clone(whole)
		batch := slices.Repeat([][]byte{record}, n)
		one, _ := Pack(batch)
		other, _ := Pack(batch)
		want := likePack(batch...)
		spoil(one, 0xAA)
		if !bytes.Equal(whole, was) || !bytes.Equal(other, want) {
			t.Errorf("writing into the result made the record %v and another result %v", whole, other)
		}
		spoil(whole, 0xBB)
		spoil(batch, nil)
		if !bytes.Equal(other, want) {
			t.Errorf("writing into the records made the result %v", other)
		}
	}
}

// cloneBatches is as deep as the lists are.
func cloneBatches(batches [][][]byte) [][][]byte {
	c := slices.Clone(batches)
	for i := range c {
		c[i] = cloneBatch(c[i])
	}
	return c
}

// What Scan returns is new memory, its spare capacity too: no list of it
// shares memory with the bytes, with a list of another call or with another
// list of the same call.
func TestScanSharesNothingP8_2(t *testing.T) {
	packed, _ := packedSample()
	// An incomplete batch, of which nothing may stay behind in a capacity.
	packed = join(packed, frameOf(1, 0, 9), frameOf(1, 0, 8))
	b, whole := marked(0xEE, packed...)
	was := slices.Clone(whole)
	for i, batch := range sample() {
		for j := range batch {
			one, _, _ := Scan(b)
			other, _, _ := Scan(b)
			want := cloneBatches(one)
			want[i][j] = bytes.Repeat([]byte{0xAA}, len(want[i][j]))
			spoil(one[i][j], 0xAA)
			if !bytes.Equal(whole, was) || !sameBatches(other, sample()) || !sameBatches(one, want) {
				t.Errorf("writing into record %d of batch %d made the bytes %v and the results %v and %v", j, i, whole, one, other)
			}
		}
		one, _, _ := Scan(b)
		other, _, _ := Scan(b)
		want := cloneBatches(one)
		want[i] = slices.Repeat([][]byte{{0xAA}}, len(want[i]))
		spoil(one[i], []byte{0xAA})
		if !sameBatches(other, sample()) || !sameBatches(one, want) {
			t.Errorf("writing into batch %d made the results %v and %v", i, one, other)
		}
		spoil(one, [][]byte{{0xAA}})
		if !sameBatches(other, sample()) {
			t.Errorf("writing into the batches made another result %v", other)
		}
	}
	kept, _, _ := Scan(b)
	spoil(whole, 0xBB)
	if !sameBatches(kept, sample()) {
		t.Errorf("writing into the bytes made the result %v", kept)
	}
}

func TestNothingIsKeptP8_1P8_2(t *testing.T) {
	b, _ := packedSample()
	for range 3 {
		wantPack(t, [][]byte{{5}, {6, 7}}, []byte{1, 0, 5, 9, 14, 2, 1, 6, 7, 20, 40}, ok)
		wantPack(t, [][]byte{{5}, {}}, nil, size)
		wantScan(t, b, sample(), len(b), ok)
		// An incomplete batch is no part of the next call's first one.
		wantScan(t, frameOf(1, 0, 9), nil, 0, ok)
		wantScan(t, likePack([]byte{5}), [][][]byte{{{5}}}, 5, ok)
		wantScan(t, nil, nil, 0, ok)
	}
}

func FuzzScan(f *testing.F) {
	b, _ := packedSample()
	f.Add(b)
	f.Add([]byte{1, 0, 5, 9, 14, 2, 1, 6, 7, 20, 40})
	f.Add(make([]byte, api.MaxDisk+1))
	f.Fuzz(func(t *testing.T, b []byte) {
		wantLike(t, b)
		batches, used, _ := Scan(b)
		var again []byte
		for _, batch := range batches {
			again = append(again, likePack(batch...)...)
		}
		if !bytes.Equal(again, b[:used]) {
			t.Errorf("%v are the batches of %v, not of %v", batches, again, b[:used])
		}
	})
}

// recordsOf reads records from any bytes: the first of each says its length.
func recordsOf(b []byte) [][]byte {
	var records [][]byte
	for len(b) > 0 {
		n := min(int(b[0]%64), len(b)-1)
		records = append(records, b[1:1+n])
		b = b[1+n:]
	}
	return records
}

func FuzzPack(f *testing.F) {
	f.Add([]byte{1, 5, 2, 6, 7})
	f.Add(bytes.Repeat([]byte{1, 5}, api.MaxList+1))
	f.Fuzz(func(t *testing.T, b []byte) {
		batch := recordsOf(b)
		wrong := func(record []byte) bool { return len(record) == 0 || len(record) > 60 }
		if len(batch) == 0 || len(batch) > 60 || slices.ContainsFunc(batch, wrong) {
			wantPack(t, batch, nil, size)
			return
		}
		wantBoth(t, batch, likePack(batch...))
	})
}
