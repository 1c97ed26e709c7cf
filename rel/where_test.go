package rel_test

import (
	"math"
	"testing"

	"quarantine/api"
)

// P12.1: those for which Where holds, in order

func TestWhere(t *testing.T) {
	come(t, map[string]string{
		"select k from t where 1 = 1":                                 "[1] [2] [3] [4]",
		"select k from t where 1 = 2":                                 "",
		"select k from t where k = 3":                                 "[3]",
		"select k from t where k <> 3":                                "[1] [2] [4]",
		"select k from t where a > k":                                 "[1] [2] [3]",
		"select k from t where x = 'b' and a = 5":                     "[1] [3]",
		"select k from t where x = 'a' or a < 0":                      "[2] [4]",
		"select k from t where not x > ''":                            "[4]",
		"select k from t where t.x >= 'a' and t.k * t.k < 9":          "[1] [2]",
		"select k from t where x = 'c'":                               "",
		"select t.k, u.k from t join u on t.k = r where u.k > 7":      "[1 8] [3 9]",
		"select t.k, u.k from t join u on t.k = r where t.k + r = 6":  "[3 7] [3 9]",
		"select t.k, u.k from t join u on x = y where t.x <> u.y":     "",
		"select t.k, u.k from t join u on x = x where u.k = t.k":      "[3 3]",
		"select t.k, u.k from t join u on x = x where u.k - t.k <= 3": "[1 3] [2 3] [3 3] [4 7] [4 3]",
		"select k from t where a = 5 order by x desc":                 "[1] [3]",
		"select count(*), max(k) from t where a = 5":                  "[2 3]",
	})
}

// What is not told may be asked for.
func TestWhereOfColumnsThatAreNotTold(t *testing.T) {
	come(t, map[string]string{
		"select x from t where a = 3":                                   "['a']",
		"select t.k from t join u on x = y where u.r = 1":               "[2]",
		"select sum(k) from t where x = 'b'":                            "[4]",
		"select y from t join u on t.k = r where x = 'b' order by a":    "['a'] ['b'] ['b']",
		"select min(y) from t join u on t.k = r where t.k > 1 or r < 0": "['b']",
	})
}

// P12.1: a condition that comes to an error at some row: it is told, and nothing beside it

func TestErrorAtSomeRow(t *testing.T) {
	for _, big := range []int{0, 1, 2, 3} {
		g := asking(t, "select * from t where k + 1 > 0")
		g.Lrows[big][0] = whole(math.MaxInt64)
		g.fails(t, api.ErrOverflow)
		for _, text := range []string{
			"select k from t where k + 1 > 0 order by a", "select count(*) from t where k + 1 > 0", "select sum(a), max(x) from t where k + 1 > 0",
			"select * from t join u on t.x = t.x where t.k + 1 > 0", "select x from t where k * 2 = 4", "select k from t where not -k - 2 = 0",
		} {
			g.St = stmt(t, text)
			g.fails(t, api.ErrOverflow)
		}
		// A part that is not looked at says nothing.
		g.St = stmt(t, "select k from t where k > 9 or k + 1 < 0")
		g.comes(t, "[9223372036854775807]")
		g.St = stmt(t, "select a from t where k < 9 and k + 1 < 0")
		g.comes(t, "")
	}
}

// An error is told whatever the rows ahead of it and behind it are, also where Where does not hold for any other.
func TestErrorBesideRowsThatAreNone(t *testing.T) {
	for _, l := range [][]int64{{math.MaxInt64}, {math.MaxInt64, 1}, {1, math.MaxInt64}, {1, 2, math.MaxInt64, 3}, {math.MaxInt64, math.MaxInt64}} {
		for _, text := range []string{"select * from t where k + 1 = 0", "select * from t where k + 1 <> 0", "select min(k) from t where k + 1 = 0", "select sum(k) from t where k + 1 = 0"} {
			given{St: stmt(t, text), Left: table("t", "k int"), Lrows: downward(l...)}.fails(t, api.ErrOverflow)
		}
	}
}

// Of several rows with errors the first one's is told. (That it is ErrType shows which: a row of other kinds than its columns.)
func TestTheFirstError(t *testing.T) {
	over, other := []api.Value{whole(math.MaxInt64)}, []api.Value{written("a")}
	for _, x := range []struct {
		rows [][]api.Value
		want api.Errno
	}{
		{[][]api.Value{over, other}, api.ErrOverflow}, {[][]api.Value{other, over}, api.ErrType},
		{[][]api.Value{ints(1), over, other, over}, api.ErrOverflow}, {[][]api.Value{ints(1), ints(2), other, over, over}, api.ErrType},
	} {
		g := given{St: stmt(t, "select * from t where k + 1 > 0"), Left: table("t", "k int"), Lrows: x.rows}
		g.fails(t, x.want)
		g.St = stmt(t, "select count(*) from t where k + 1 > 0")
		g.fails(t, x.want)
		// With Join: of each of left with each of right, in order.
		g.St, g.Right, g.Rrows = stmt(t, "select * from t join u on r = r where k + 1 > 0"), table("u", "r int"), downward(1, 2)
		g.fails(t, x.want)
		g.St = stmt(t, "select * from u join t on r = r where k + 1 > 0")
		g.Left, g.Right, g.Lrows, g.Rrows = g.Right, g.Left, g.Rrows, g.Lrows
		g.fails(t, x.want)
	}
}

// Where is asked of the rows that are joined, and of no others.
func TestWhereIsAskedOfWhatIsJoined(t *testing.T) {
	g := given{St: stmt(t, "select t.k from t join u on t.k = r where t.k + u.k > 0"), Left: table("t", "k int"), Right: table("u", "k int", "r int")}
	g.Lrows, g.Rrows = downward(1, math.MaxInt64, 2), [][]api.Value{ints(1, 1), ints(math.MaxInt64, 7), ints(0, math.MaxInt64)}
	g.comes(t, "[1] [9223372036854775807]")
	g.Rrows = append(g.Rrows, ints(1, math.MaxInt64))
	g.fails(t, api.ErrOverflow)
	// Ahead of what the items say: of no rows, and of sums that run over.
	g.St.Items = []api.Item{{Agg: api.AggMin, Table: "t", Name: "k"}, {Agg: api.AggSum, Table: "u", Name: "r"}}
	g.fails(t, api.ErrOverflow)
	g.St.Where = where(t, "t.k + u.k = 0 or t.k > 5")
	g.fails(t, api.ErrOverflow)
}

// Where comes ahead of the items: its error is told, not theirs.
func TestWhereAheadOfItems(t *testing.T) {
	g := given{St: stmt(t, "select min(k) from t where k < 0 and k + -9223372036854775807 - 2 < 0"), Left: table("t", "k int"), Lrows: downward(1)}
	g.fails(t, api.ErrEmpty)
	g.Lrows = downward(1, -1)
	g.fails(t, api.ErrOverflow)
	g.Lrows = downward(-1, 1)
	g.fails(t, api.ErrOverflow)
}
