package rel_test

import (
	"slices"
	"testing"

	"quarantine/api"
)

// sameRows tells whether a and b have the same rows, each so many times, in whatever order.
func sameRows(a, b [][]api.Value) bool {
	var l, m []string
	for _, r := range a {
		l = append(l, shown([][]api.Value{r}))
	}
	for _, r := range b {
		m = append(m, shown([][]api.Value{r}))
	}
	slices.Sort(l)
	slices.Sort(m)
	return slices.Equal(l, m)
}

// P12.1, what follows: Order aside, rows handed in in another order come to the same rows

func TestRowsInAnotherOrder(t *testing.T) {
	d := dice(5)
	for _, text := range []string{
		"select * from t", "select x, k from t where a > 2", "select a from t", "select a from t order by x", "select x, a from t order by a desc",
		"select * from t join u on t.k = r", "select t.k, u.k from t join u on x = y where u.k > 7", "select a, y from t join u on x = y order by r desc",
		"select a, r from t join u on a = a", "select x from t where k > 9",
		"select count(*), sum(a), min(x), max(x) from t", "select sum(t.k), sum(u.k), min(y), max(a) from t join u on t.k = r", "select count(*), sum(a) from t where k > 9",
	} {
		g := asking(t, text)
		want, e := g.selected()
		if e != api.OK {
			t.Fatalf("%q comes to %d", text, e)
		}
		for range 50 {
			g.Lrows, g.Rrows = mixed(&d, g.Lrows), mixed(&d, g.Rrows)
			if got, e := g.selected(); !sameRows(got, want) || e != api.OK {
				t.Errorf("%q of %s and %s comes to %s, %d, not %s", text, shown(g.Lrows), shown(g.Rrows), shown(got), e, shown(want))
			}
		}
	}
}

// With an Order by which no two are alike, they stand the same, too.
func TestRowsInAnotherOrderOrdered(t *testing.T) {
	d := dice(6)
	for text, want := range map[string]string{
		"select x from t order by k":                                        "['b'] ['a'] ['b'] ['']",
		"select x from t order by k desc":                                   "[''] ['b'] ['a'] ['b']",
		"select x, y from t join u on t.k = r order by u.k":                 "['b' 'b'] ['b' 'a'] ['b' 'b']",
		"select * from t join u on t.k = r where u.k > 7 order by u.k desc": "[3 'b' 5 9 3 'b'] [1 'b' 5 8 1 'a']",
	} {
		g := asking(t, text)
		for range 50 {
			g.comes(t, want)
			g.Lrows, g.Rrows = mixed(&d, g.Lrows), mixed(&d, g.Rrows)
		}
	}
}

// Tables the other way round come to the same rows, with their columns as the Items name them.
func TestTablesTheOtherWayRound(t *testing.T) {
	for _, x := range [][2]string{
		{"select x, a, u.k from t join u on t.k = r", "select x, a, u.k from u join t on t.k = r"},
		{"select t.k, u.k, y from t join u on x = y where r > 1", "select t.k, u.k, y from u join t on y = x where r > 1"},
		{"select count(*), sum(t.k), max(y) from t join u on x = y", "select count(*), sum(t.k), max(y) from u join t on x = y"},
	} {
		g := asking(t, x[0])
		want, e := g.selected()
		g.St = stmt(t, x[1])
		g.Left, g.Right, g.Lrows, g.Rrows = g.Right, g.Left, g.Rrows, g.Lrows
		if got, f := g.selected(); !sameRows(got, want) || e != api.OK || f != api.OK {
			t.Errorf("%q comes to %s, %d, and %q to %s, %d", x[0], shown(want), e, x[1], shown(got), f)
		}
	}
}

// A sort of rows in another order comes to the same rows, by values that stand the same.
func TestSortsInAnotherOrder(t *testing.T) {
	d := dice(7)
	rows, _ := people()
	for range 200 {
		other := mixed(&d, rows)
		for by := -1; by < 4; by++ {
			for _, desc := range []bool{false, true} {
				a, b := sortedBy(rows, by, desc), sortedBy(other, by, desc)
				if !sameRows(a, b) {
					t.Fatalf("%s of %s, and %s of %s", shown(a), shown(rows), shown(b), shown(other))
				}
				for i := range a {
					if by >= 0 && by < 3 && a[i][by] != b[i][by] {
						t.Fatalf("by %d, %v: %s, and %s", by, desc, shown(a), shown(b))
					}
				}
			}
		}
	}
}
