package rel_test

import (
	"math"
	"math/big"
	"testing"

	"quarantine/api"
)

// folding tells a select of what these make of a column, over its values.
func folding(t *testing.T, items string, l ...int64) given {
	return given{St: stmt(t, "select "+items+" from t"), Left: table("t", "k int"), Lrows: downward(l...)}
}

// P12.1, with Agg: one row

func TestAggs(t *testing.T) {
	come(t, map[string]string{
		"select count(*) from t":                         "[4]",
		"select sum(k) from t":                           "[10]",
		"select sum(a) from t":                           "[12]",
		"select min(a) from t":                           "[-1]",
		"select max(a) from t":                           "[5]",
		"select min(x) from t":                           "['']",
		"select max(x) from t":                           "['b']",
		"select min(x) from t where x > ''":              "['a']",
		"select max(t.x) from t where k = 2":             "['a']",
		"select count(*), sum(a), min(a), max(k) from t": "[4 12 -1 4]",
		"select max(k), max(k), count(*), count(*), min(x), sum(t.k) from t":      "[4 4 4 4 '' 10]",
		"select sum(a), count(*) from t where k > 2":                              "[4 2]",
		"select count(*) from t join u on t.k = r":                                "[3]",
		"select sum(t.k), sum(u.k), min(y), max(y) from t join u on t.k = r":      "[7 24 'a' 'b']",
		"select count(*), sum(r) from t join u on t.k = r where u.k <> 8":         "[2 6]",
		"select min(u.k), min(t.k), max(u.k), max(t.k) from t join u on x = y":    "[7 1 9 3]",
		"select max(x), min(y) from t join u on x = x where t.k = 4 and u.k <= 3": "['' 'c']",
	})
}

// AggCount: of none and of some

func TestCount(t *testing.T) {
	for n := range 50 {
		g := folding(t, "count(*)", make([]int64, n)...)
		g.comes(t, shown(downward(int64(n))))
		// A column's table says nothing there.
		g.St.Items[0].Table = "t"
		g.comes(t, shown(downward(int64(n))))
	}
	come(t, map[string]string{
		"select count(*) from t where k > 9":                               "[0]",
		"select count(*), count(*) from t where 1 = 2":                     "[0 0]",
		"select count(*) from t join u on a = u.k where t.k = u.k":         "[0]",
		"select count(*) from t where 1 = 2 or k = 1":                      "[1]",
		"select count(*) from t where 1 = 2 and 9223372036854775807 + k=0": "[0]",
	})
	g := asking(t, "select count(*) from t join u on t.k = t.k")
	g.comes(t, "[16]")
	g.Rrows = nil
	g.comes(t, "[0]")
}

// AggSum: from 0, of none

func TestSumOfNone(t *testing.T) {
	folding(t, "sum(k)").comes(t, "[0]")
	come(t, map[string]string{
		"select sum(k) from t where k > 9":                          "[0]",
		"select count(*), sum(a), sum(k) from t where k > 9":        "[0 0 0]",
		"select sum(u.k) from t join u on t.k = u.k where t.k <> 3": "[0]",
	})
	g := asking(t, "select sum(r), sum(a) from t join u on x = y")
	g.Lrows = nil
	g.comes(t, "[0 0]")
}

// AggSum: in order, ErrOverflow where a sum on the way does not fit

func TestSumsAtTheirEdges(t *testing.T) {
	const least, greatest = math.MinInt64, math.MaxInt64
	for _, x := range []struct {
		want int64
		l    []int64
	}{
		{0, []int64{0}}, {greatest, []int64{greatest}}, {least, []int64{least}}, {-1, []int64{greatest, least}}, {-1, []int64{least, greatest}},
		{greatest, []int64{greatest - 1, 1}}, {least, []int64{least + 1, -1}}, {greatest, []int64{greatest, -1, 1}}, {greatest, []int64{-1, greatest, 1}}, {least, []int64{1, least, -1}},
		{greatest, []int64{greatest, 0, 0}}, {greatest - 1, []int64{least, greatest, greatest}}, {-2, []int64{-1, greatest, least, 0}}, {6, []int64{1, 2, 3}}, {-6, []int64{-1, -2, -3}},
	} {
		folding(t, "sum(k)", x.l...).comes(t, shown(downward(x.want)))
	}
	for _, l := range [][]int64{
		{greatest, 1}, {1, greatest}, {least, -1}, {-1, least}, {greatest, greatest}, {least, least},
		{greatest, 1, -1}, {1, greatest, -1}, {least, -1, 1}, {greatest, greatest, least, least}, {least, least, greatest, greatest}, {0, 0, greatest, 1, least},
		{1 << 62, 1 << 62}, {1 << 62, 1 << 62, -1}, {1<<62 - 1, 1 << 62, 1},
	} {
		folding(t, "sum(k)", l...).fails(t, api.ErrOverflow)
	}
}

func TestSums(t *testing.T) {
	d := dice(1)
	told := map[api.Errno]int{}
	for range 20000 {
		var l []int64
		sum, want := new(big.Int), api.OK
		for range d.next(5) {
			n := pick(&d, int64(d.next(9)-4), math.MaxInt64-int64(d.next(4)), math.MinInt64+int64(d.next(4)), 1<<62, -1<<62)
			l = append(l, n)
			if sum.Add(sum, big.NewInt(n)); !sum.IsInt64() {
				want = api.ErrOverflow
			}
		}
		told[want]++
		g := folding(t, "sum(k), count(*)", l...)
		if want != api.OK {
			g.fails(t, want)
		} else {
			g.comes(t, shown([][]api.Value{ints(sum.Int64(), int64(len(l)))}))
		}
	}
	if told[api.OK] < 1000 || told[api.ErrOverflow] < 1000 {
		t.Errorf("but so many: %v", told)
	}
}

// AggMin, AggMax: the least, the greatest, wherever it stands

func TestLeastAndGreatest(t *testing.T) {
	for _, x := range []struct {
		least, greatest int64
		l               []int64
	}{
		{5, 5, []int64{5}}, {1, 3, []int64{1, 2, 3}}, {1, 3, []int64{3, 2, 1}}, {1, 3, []int64{2, 1, 3}}, {1, 3, []int64{2, 3, 1}}, {2, 2, []int64{2, 2, 2}},
		{-3, -1, []int64{-2, -1, -3}}, {-1, 1, []int64{0, 1, -1, 0}}, {0, 7, []int64{7, 0}}, {math.MinInt64, math.MaxInt64, []int64{math.MaxInt64, 0, math.MinInt64}}, {1, 10, []int64{10, 9, 1}},
	} {
		folding(t, "min(k), max(k)", x.l...).comes(t, shown([][]api.Value{ints(x.least, x.greatest)}))
	}
	g := given{St: stmt(t, "select min(x), max(x) from t"), Left: table("t", "x text")}
	for _, l := range [][]string{{"", "~~"}, {"", "a", "~"}, {"A", "Z", "a"}, {"a", "aa", "ab", "b"}, {"10", "9"}, {"a", "a "}} {
		for range 2 {
			g.Lrows = nil
			for _, s := range l {
				g.Lrows = append([][]api.Value{{written(s)}}, append(g.Lrows, []api.Value{written(s)})...)
			}
			g.comes(t, shown([][]api.Value{{written(l[0]), written(l[len(l)-1])}}))
		}
	}
}

// AggMin, AggMax: ErrEmpty: no rows

func TestLeastAndGreatestOfNone(t *testing.T) {
	for _, items := range []string{"min(k)", "max(k)", "min(k), max(k)", "count(*), min(k)", "sum(k), max(k)", "max(k), count(*)"} {
		folding(t, items).fails(t, api.ErrEmpty)
		g := folding(t, items, 1, 2, 3)
		g.St.Where = where(t, "k > 3")
		g.fails(t, api.ErrEmpty)
	}
	for _, text := range []string{"select min(x) from t where x = 'none'", "select max(x) from t where 1 = 2", "select max(y) from t join u on a = u.k where t.k = u.k", "select count(*), sum(k), min(x), sum(a) from t where k < 0"} {
		asking(t, text).fails(t, api.ErrEmpty)
	}
	g := asking(t, "select max(y) from t join u on x = y")
	g.Rrows = nil
	g.fails(t, api.ErrEmpty)
}

// P12.1: Item by Item: several at once, with the first error told

func TestTheFirstItemsError(t *testing.T) {
	// Sums alone run over; of no rows there is no least. So both at once want a row of another kind, where a sum has ErrType.
	big := folding(t, "sum(k)", math.MaxInt64, 1)
	for _, items := range []string{"sum(k)", "count(*), sum(k)", "sum(k), count(*)", "min(k), sum(k)", "sum(k), max(k)", "min(k), max(k), count(*), sum(k), min(k)"} {
		big.St = stmt(t, "select "+items+" from t")
		big.fails(t, api.ErrOverflow)
	}
	two := given{Left: table("t", "k int", "a int"), Lrows: [][]api.Value{{whole(math.MaxInt64), whole(1)}, {whole(1), written("x")}}}
	for items, want := range map[string]api.Errno{
		"sum(k), sum(a)": api.ErrOverflow, "sum(a), sum(k)": api.ErrType,
		"min(k), sum(a), sum(k)": api.ErrType, "count(*), sum(k), sum(a)": api.ErrOverflow,
	} {
		two.St = stmt(t, "select "+items+" from t")
		two.fails(t, want)
	}
	// A column that there is not, which Check would not let through, shows that the Items are looked at one by one.
	for items, want := range map[string]api.Errno{
		"min(k), sum(none)": api.ErrEmpty, "sum(none), min(k)": api.ErrColumn,
		"sum(k), count(*), max(none), min(k)": api.ErrColumn, "sum(k), count(*), max(k), min(none)": api.ErrEmpty,
	} {
		folding(t, items).fails(t, want)
	}
}

// The chapter's example

func TestExample(t *testing.T) {
	folding(t, "sum(k)").comes(t, "[0]")
	if got, e := folding(t, "sum(k)").selected(); e != api.OK || len(got) != 1 || len(got[0]) != 1 || got[0][0] != (api.Value{Kind: api.Int}) {
		t.Errorf("sum of no rows: %+v, %d", got, e)
	}
}
