package rows

import (
	"slices"
	"testing"

	"bagnall/api"
)

func TestExampleP9_2(t *testing.T) {
	l := table("a", "1", "b", "2", "ba", "3")
	wantSet(t, l, table("b", "", "aa", "4", "a", "5", "z", ""), table("a", "5", "aa", "4", "ba", "3"), ok)
	wantSet(t, table("a", "1"), table("a", ""), nil, ok)
}

func TestNoChangeP9_2(t *testing.T) {
	for n := range api.MaxRows + 1 {
		wantSet(t, manyRows(0, n), nil, manyRows(0, n), ok)
		wantSet(t, manyRows(0, n), []api.Row{}, manyRows(0, n), ok)
		// Changes that leave all as it is.
		wantSet(t, manyRows(0, n), manyRows(0, n), manyRows(0, n), ok)
		wantSet(t, manyRows(0, n), table("x", ""), manyRows(0, n), ok)
	}
}

// A row is inserted, replaced and removed at every place of tables of every
// length.
func TestEveryPlaceP9_2(t *testing.T) {
	for n := 1; n <= api.MaxRows; n++ {
		whole := manyRows(0, n)
		for at := range n {
			ahead, behind := whole[:at], whole[at+1:]
			without := join(ahead, behind)
			key := whole[at].Key
			wantSet(t, without, whole[at:at+1], whole, ok)
			wantSet(t, whole, table(key, ""), without, ok)
			wantSet(t, without, table(key, ""), without, ok)
			wantSet(t, whole, table(key, "new"), join(ahead, table(key, "new"), behind), ok)
			// A key that begins with this one stands behind it.
			wantSet(t, without, table(key+"\x00", "new"), join(ahead, table(key+"\x00", "new"), behind), ok)
			wantSet(t, whole, table(key+"\x00", ""), whole, ok)
			wantSet(t, whole, table(key[:1], ""), whole, ok)
			if n < api.MaxRows {
				wantSet(t, whole, table(key+"\x00", "new"), join(whole[:at+1], table(key+"\x00", "new"), behind), ok)
				wantSet(t, whole, table("\x00", "new"), join(table("\x00", "new"), whole), ok)
				wantSet(t, whole, table("\xff", "new"), join(whole, table("\xff", "new")), ok)
			}
		}
	}
}

func TestInsertByHandP9_2(t *testing.T) {
	l := table("b", "1", "d", "2")
	wantSet(t, nil, table("a", "x"), table("a", "x"), ok)
	wantSet(t, l, table("a", "x"), table("a", "x", "b", "1", "d", "2"), ok)
	wantSet(t, l, table("c", "x"), table("b", "1", "c", "x", "d", "2"), ok)
	wantSet(t, l, table("e", "x"), table("b", "1", "d", "2", "e", "x"), ok)
	wantSet(t, l, table("ba", "x"), table("b", "1", "ba", "x", "d", "2"), ok)
	wantSet(t, l, table("B", "x"), table("B", "x", "b", "1", "d", "2"), ok)
	wantSet(t, l, table("\x80", "x"), table("b", "1", "d", "2", "\x80", "x"), ok)
	wantSet(t, l, table("e", "x", "c", "y", "a", "z"), table("a", "z", "b", "1", "c", "y", "d", "2", "e", "x"), ok)
	wantSet(t, l, table("a", "z", "c", "y", "e", "x"), table("a", "z", "b", "1", "c", "y", "d", "2", "e", "x"), ok)
	wantSet(t, l, table("b", "", "d", ""), nil, ok)
	wantSet(t, l, table("d", "", "b", "", "b", "", "d", ""), nil, ok)
	wantSet(t, l, table("d", "b", "b", "d"), table("b", "d", "d", "b"), ok)
	wantSet(t, nil, table("a", "", "b", ""), nil, ok)
	wantSet(t, nil, table("ab", "1", "a", "2", "abc", "3"), table("a", "2", "ab", "1", "abc", "3"), ok)
	wantSet(t, nil, table("\xff", "1", "\x7f", "2", "\x80", "3", "\x00", "4"), table("\x00", "4", "\x7f", "2", "\x80", "3", "\xff", "1"), ok)
}

// The last change of a key counts.
func TestSameKeySeveralTimesP9_2(t *testing.T) {
	for _, l := range [][]api.Row{nil, table("b", "0"), table("a", "0", "b", "0", "c", "0")} {
		with := func(value string) []api.Row {
			switch {
			case len(l) == 3 && value == "":
				return table("a", "0", "c", "0")
			case len(l) == 3:
				return table("a", "0", "b", value, "c", "0")
			case value == "":
				return nil
			}
			return table("b", value)
		}
		for _, values := range [][]string{{"1", "2"}, {"2", "1"}, {"1", ""}, {"", "1"}, {"", ""}, {"1", "1"}, {"1", "", "2"}, {"", "1", ""}, {"1", "2", "3"}, {"3", "", ""}, {"", "0"}} {
			var changes, spread []api.Row
			for _, v := range values {
				changes = append(changes, api.Row{Key: "b", Value: v})
				spread = join(spread, table("bb", "x", "b", v, "bb", ""))
			}
			wantSet(t, l, changes, with(values[len(values)-1]), ok)
			wantSet(t, l, spread, with(values[len(values)-1]), ok)
		}
	}
	wantSet(t, manyRows(0, 40), slices.Repeat(table("x", "1"), 60), nil, full)
	wantSet(t, manyRows(0, 39), slices.Repeat(table("x", "1"), 60), join(manyRows(0, 39), table("x", "1")), ok)
}

func TestNumberOfChangesP9_2(t *testing.T) {
	for n := range api.MaxList + 1 {
		wantSet(t, table("a", "1"), slices.Repeat(table("a", "2"), n), table("a", []string{"1", "2"}[min(n, 1)]), ok)
		wantSet(t, nil, slices.Repeat(table("a", ""), n), nil, ok)
		if n <= api.MaxRows {
			wantSet(t, nil, manyRows(0, n), manyRows(0, n), ok)
		} else {
			wantSet(t, nil, manyRows(0, n), nil, full)
		}
	}
	for _, n := range []int{61, 62, 256, 316, 1 << 16} {
		wantSet(t, table("a", "1"), slices.Repeat(table("a", "2"), n), nil, size)
		wantSet(t, nil, slices.Repeat(table("a", ""), n), nil, size)
		wantSet(t, nil, make([]api.Row, n), nil, size)
	}
	// The changes that come last are made, too.
	wantSet(t, nil, join(slices.Repeat(table("a", "1"), 59), table("b", "2")), table("a", "1", "b", "2"), ok)
}

func TestLengthsOfChangesP9_2(t *testing.T) {
	l := table("a", "1")
	for n := range 300 {
		key, value := table(long(n), "2"), table("a", long(n))
		switch {
		case n == 0:
			wantSet(t, l, key, nil, size)
			wantSet(t, l, value, nil, ok)
		case n <= 20:
			wantSet(t, l, key, join(l, key), ok)
			wantSet(t, l, value, value, ok)
		default:
			wantSet(t, l, key, nil, size)
			wantSet(t, l, value, nil, size)
		}
		// A change that removes has a valid key, too.
		if n >= 1 && n <= 20 {
			wantSet(t, l, table(long(n), ""), l, ok)
			wantSet(t, join(l, key), table(long(n), ""), l, ok)
		} else {
			wantSet(t, l, table(long(n), ""), nil, size)
		}
	}
	// At every place, also if a later change undoes it.
	for n := 1; n <= api.MaxList; n++ {
		for at := range n {
			for _, wrong := range []api.Row{{Key: "", Value: "1"}, {}, {Key: long(21), Value: "1"}, {Key: long(21)}, {Key: "a", Value: long(21)}} {
				changes := slices.Repeat(table("a", "1"), n)
				changes[at] = wrong
				wantSet(t, l, changes, nil, size)
			}
		}
	}
}

func TestFullP9_2(t *testing.T) {
	whole := manyRows(0, 40)
	wantSet(t, whole, table("x", "1"), nil, full)
	wantSet(t, whole, table("\x00", "1"), nil, full)
	wantSet(t, whole, table("20x", "1"), nil, full)
	wantSet(t, whole, table("20", "1"), join(whole[:20], table("20", "1"), whole[21:]), ok)
	wantSet(t, whole, table("x", ""), whole, ok)
	wantSet(t, manyRows(0, 39), table("x", "1"), join(manyRows(0, 39), table("x", "1")), ok)
	wantSet(t, manyRows(0, 39), table("x", "1", "y", "1"), nil, full)
	wantSet(t, whole, manyRows(40, 60), nil, full)
	wantSet(t, nil, manyRows(0, 41), nil, full)
	wantSet(t, nil, manyRows(0, 40), whole, ok)
}

// Only the number of rows after all changes counts, not that in between.
func TestFullInBetweenP9_2(t *testing.T) {
	whole := manyRows(0, 40)
	wantSet(t, whole, table("x", "1", "x", ""), whole, ok)
	wantSet(t, whole, table("x", "1", "00", ""), join(whole[1:], table("x", "1")), ok)
	wantSet(t, whole, table("00", "", "x", "1"), join(whole[1:], table("x", "1")), ok)
	wantSet(t, whole, table("x", "1", "y", "2", "00", ""), nil, full)
	var removed []api.Row
	for _, r := range whole {
		removed = append(removed, api.Row{Key: r.Key})
	}
	wantSet(t, whole, removed, nil, ok)
	wantSet(t, whole, join(manyRows(40, 30), removed[:30]), manyRows(30, 40), ok)
	wantSet(t, whole, join(manyRows(40, 30), removed[:29]), nil, full)
	wantSet(t, whole, join(removed[:30], manyRows(40, 30)), manyRows(30, 40), ok)
	// As many rows as there can be in between, of which only half go.
	wantSet(t, whole, manyRows(40, 59), nil, full)
	for n := range 31 {
		wantSet(t, whole[:40-n], join(manyRows(40, 30), removed[:30-n]), join(whole[30-n:40-n], manyRows(40, 30)), ok)
	}
}

// Each change is one of few: all sequences of up to four of them.
func TestEveryShortSequenceP9_2(t *testing.T) {
	some := table("a", "1", "a", "2", "a", "", "ab", "3", "ab", "", "\x80", "4", "\x80", "")
	tables := [][]api.Row{nil, table("a", "0"), table("ab", "0", "b", "0"), table("Z", "0", "a", "0", "ab", "0", "\x80", "0")}
	var each func(changes []api.Row, more int)
	each = func(changes []api.Row, more int) {
		for _, l := range tables {
			after, e := likeSet(l, changes)
			wantSet(t, l, changes, after, e)
		}
		if more == 0 || t.Failed() {
			return
		}
		for _, c := range some {
			each(append(slices.Clone(changes), c), more-1)
		}
	}
	each(nil, 4)
}

func TestWhichErrorOfSetP9_2(t *testing.T) {
	tooMany := slices.Repeat(table("a", "1"), 61)
	for _, c := range []struct {
		l, changes []api.Row
		code       api.Errno
	}{
		// That of the table comes ahead of all others.
		{table("a", ""), tooMany, form},
		{table("a", ""), table("", "1"), form},
		{table("a", ""), manyRows(0, 41), form},
		{table("a", "1", "a", "1"), tooMany, twice},
		{table("a", "1", "a", "1"), table("a", long(21)), twice},
		{table("b", "1", "a", "1"), manyRows(0, 41), twice},
		{table("", "1"), manyRows(0, 41), size},
		// An error of the table counts also if the changes remove the row.
		{table("a", ""), table("a", ""), form},
		{table("a", ""), table("a", "1"), form},
		{table("a", "1", "a", "1"), table("a", ""), twice},
		{manyRows(0, 41), table("00", ""), size},
		// A length or number of the changes comes ahead of ErrFull.
		{manyRows(0, 40), join(manyRows(40, 40), table("", "1")), size},
		{manyRows(0, 40), join(manyRows(40, 40), table("", "")), size},
		{manyRows(0, 40), join(table("a", long(21)), manyRows(40, 40)), size},
		{manyRows(0, 40), manyRows(40, 61), size},
		{manyRows(0, 40), manyRows(40, 60), full},
		{nil, join(manyRows(0, 59), table(long(21), "")), size},
		// A change without a value, twice or out of order is no error.
		{nil, table("b", "", "a", "", "a", ""), ok},
	} {
		wantSet(t, c.l, c.changes, nil, c.code)
	}
}
