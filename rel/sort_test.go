package rel_test

import (
	"math"
	"slices"
	"strings"
	"testing"

	"quarantine/api"
	"quarantine/rel"
)

// sorts asks for what Sort tells of these, as shown has it.
func sorts(t *testing.T, rows [][]api.Value, by int, desc bool, want string) {
	t.Helper()
	if got := shown(rel.Sort(rows, by, desc)); got != want {
		t.Errorf("Sort of %s by %d, %v is %s, not %s", brief(shown(rows)), by, desc, brief(got), brief(want))
	}
}

// P12.2: rising, falling, alike ones as they stood in both

func TestSorts(t *testing.T) {
	rows, _ := people()
	sorts(t, rows, 0, false, "[1 'b' 5] [2 'a' 3] [3 'b' 5] [4 '' -1]")
	sorts(t, rows, 0, true, "[4 '' -1] [3 'b' 5] [2 'a' 3] [1 'b' 5]")
	sorts(t, rows, 1, false, "[4 '' -1] [2 'a' 3] [1 'b' 5] [3 'b' 5]")
	sorts(t, rows, 1, true, "[1 'b' 5] [3 'b' 5] [2 'a' 3] [4 '' -1]")
	sorts(t, rows, 2, false, "[4 '' -1] [2 'a' 3] [1 'b' 5] [3 'b' 5]")
	sorts(t, rows, 2, true, "[1 'b' 5] [3 'b' 5] [2 'a' 3] [4 '' -1]")
}

// By the by-th values alone: what stands beside them says nothing.
func TestSortsByOneValue(t *testing.T) {
	rows := [][]api.Value{ints(9, 1, 0), ints(1, 1, 5), ints(5, 0, 9), ints(0, 1, 1), ints(7, 0, 2)}
	sorts(t, rows, 1, false, "[5 0 9] [7 0 2] [9 1 0] [1 1 5] [0 1 1]")
	sorts(t, rows, 1, true, "[9 1 0] [1 1 5] [0 1 1] [5 0 9] [7 0 2]")
}

// Rows that are alike as a whole are all told.
func TestSortsAlikeRows(t *testing.T) {
	sorts(t, downward(2, 1, 2, 1, 2), 0, false, "[1] [1] [2] [2] [2]")
	sorts(t, downward(2, 1, 2, 1, 2), 0, true, "[2] [2] [2] [1] [1]")
}

// By value.Compare: the edges of numbers and texts, and an Int ahead of a Text

func TestSortsByCompare(t *testing.T) {
	var want [][]api.Value
	for _, n := range []int64{math.MinInt64, math.MinInt64 + 1, -10, -9, -1, 0, 1, 9, 10, 1 << 32, math.MaxInt64 - 1, math.MaxInt64} {
		want = append(want, ints(n))
	}
	for _, s := range []string{"", " ", "''", "-1", "10", "9", "A", "Z", "a", "a ", "aa", "ab", "b", "~", strings.Repeat("~", api.MaxLetter)} {
		want = append(want, []api.Value{written(s)})
	}
	back := slices.Clone(want)
	slices.Reverse(back)
	d := dice(2)
	for range 200 {
		rows := mixed(&d, want)
		sorts(t, rows, 0, false, shown(want))
		sorts(t, rows, 0, true, shown(back))
	}
}

// P12.2: if some row has no by-th value, all stand as they stood

func TestSortsByWhatThereIsNot(t *testing.T) {
	long := [][]api.Value{ints(3, 1), ints(1, 3), ints(2, 2)}
	for _, desc := range []bool{false, true} {
		for _, by := range []int{-1, -2, 2, 3, 99, math.MinInt, math.MaxInt} {
			sorts(t, long, by, desc, "[3 1] [1 3] [2 2]")
		}
		// Wherever the one stands that has none, and though another has more.
		for i := range 4 {
			for _, short := range [][]api.Value{nil, {}, ints(0)} {
				rows := slices.Insert(slices.Clone(long), i, short)
				sorts(t, rows, 1, desc, shown(rows))
				sorts(t, append(rows, ints(0, 0, 0)), 2, desc, shown(append(rows, ints(0, 0, 0))))
			}
		}
		sorts(t, [][]api.Value{nil, nil}, 0, desc, "[] []")
	}
	// One that is short, but has a by-th value, stands where it does.
	rows := [][]api.Value{ints(3, 1), ints(1), ints(2, 2, 2)}
	sorts(t, rows, 0, false, "[1] [2 2 2] [3 1]")
	sorts(t, rows, 0, true, "[3 1] [2 2 2] [1]")
	// Spare room is no value.
	rows = [][]api.Value{ints(3, 1), ints(1, 0)[:1], ints(2, 2)}
	sorts(t, rows, 1, false, "[3 1] [1] [2 2]")
}

// P12.2: no rows, one row

func TestSortsFewRows(t *testing.T) {
	for _, desc := range []bool{false, true} {
		for _, by := range []int{math.MinInt, -1, 0, 1, 2, math.MaxInt} {
			sorts(t, nil, by, desc, "")
			sorts(t, [][]api.Value{}, by, desc, "")
			sorts(t, [][]api.Value{ints(1, 2)}, by, desc, "[1 2]")
			sorts(t, [][]api.Value{{}}, by, desc, "[]")
		}
		sorts(t, downward(1, 2), 0, desc, map[bool]string{false: "[1] [2]", true: "[2] [1]"}[desc])
		sorts(t, downward(2, 1), 0, desc, map[bool]string{false: "[1] [2]", true: "[2] [1]"}[desc])
	}
}

// inserted tells rows sorted one by one: each behind all of those ahead of which it does not stand.
func inserted(rows [][]api.Value, ahead func(a, b []api.Value) bool) [][]api.Value {
	var out [][]api.Value
	for _, r := range rows {
		i := len(out)
		for i > 0 && ahead(r, out[i-1]) {
			i--
		}
		out = slices.Insert(out, i, r)
	}
	return out
}

// P12.2: more than twenty rows, many of them alike

func TestSortsMany(t *testing.T) {
	d := dice(3)
	for n := range 130 {
		for _, kinds := range []int{1, 2, 5, 1000} {
			var rows [][]api.Value
			for i := range n {
				rows = append(rows, []api.Value{whole(int64(i)), whole(int64(d.next(kinds))), written(strings.Repeat("a", d.next(min(kinds, 9))))})
			}
			sorts(t, rows, 1, false, shown(inserted(rows, func(a, b []api.Value) bool { return a[1].Int < b[1].Int })))
			sorts(t, rows, 1, true, shown(inserted(rows, func(a, b []api.Value) bool { return a[1].Int > b[1].Int })))
			sorts(t, rows, 2, false, shown(inserted(rows, func(a, b []api.Value) bool { return a[2].Text < b[2].Text })))
			sorts(t, rows, 2, true, shown(inserted(rows, func(a, b []api.Value) bool { return a[2].Text > b[2].Text })))
			sorts(t, rows, 3, true, shown(rows))
		}
	}
}

// Every small list, in each order: alike ones as they stood.
func TestSortsAllSmallLists(t *testing.T) {
	for code := range 4 * 4 * 4 * 4 * 4 {
		var rows [][]api.Value
		for i, left := 0, code; i < 5; i, left = i+1, left/4 {
			rows = append(rows, ints(int64(left%4), int64(i)))
		}
		sorts(t, rows, 0, false, shown(inserted(rows, func(a, b []api.Value) bool { return a[0].Int < b[0].Int })))
		sorts(t, rows, 0, true, shown(inserted(rows, func(a, b []api.Value) bool { return a[0].Int > b[0].Int })))
	}
}

// A sort of what is sorted changes nothing, and a great one ends soon.
func TestSortsVeryMany(t *testing.T) {
	d := dice(4)
	var rows [][]api.Value
	for i := range 100000 {
		rows = append(rows, ints(int64(d.next(300)), int64(i)))
	}
	for _, desc := range []bool{false, true} {
		got := rel.Sort(rows, 0, desc)
		if len(got) != len(rows) {
			t.Fatalf("%d rows of %d", len(got), len(rows))
		}
		for i := 1; i < len(got); i++ {
			a, b := got[i-1], got[i]
			if a[0].Int != b[0].Int && (a[0].Int > b[0].Int) != desc || a[0].Int == b[0].Int && a[1].Int >= b[1].Int {
				t.Fatalf("%s stands ahead of %s", shown([][]api.Value{a}), shown([][]api.Value{b}))
			}
		}
		if again := rel.Sort(got, 0, desc); shown(again[:1000]) != shown(got[:1000]) {
			t.Error("a second sort changes what the first one told")
		}
	}
}
