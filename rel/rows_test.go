package rel_test

import (
	"testing"

	"quarantine/api"
	"quarantine/typed"
)

// P12.1: without Join: each row of left

func TestEachRowOfLeft(t *testing.T) {
	all := "[1 'b' 5] [2 'a' 3] [3 'b' 5] [4 '' -1]"
	g := asking(t, "select * from t")
	g.comes(t, all)
	// What right is, and what it has, says nothing.
	g.Rrows = nil
	g.comes(t, all)
	g.Right = api.Table{}
	g.comes(t, all)
	g.Right = g.Left
	g.comes(t, all)
	come(t, map[string]string{
		"select k, a from t":            "[1 5] [2 3] [3 5] [4 -1]",
		"select k from t where k > 0":   "[1] [2] [3] [4]",
		"select * from t where k > 2":   "[3 'b' 5] [4 '' -1]",
		"select t.k from t where a = 5": "[1] [3]",
	})
}

func TestTheOrderIsKept(t *testing.T) {
	for _, l := range [][]int64{{1}, {1, 2, 3}, {3, 2, 1}, {2, 3, 1}, {5, 5, 5}, {1, 5, 1, 5}} {
		g := given{St: stmt(t, "select * from t"), Left: table("t", "k int"), Lrows: downward(l...)}
		g.comes(t, shown(downward(l...)))
		g.St = stmt(t, "select k, t.k from t where k > 0")
		var twice [][]api.Value
		for _, n := range l {
			twice = append(twice, ints(n, n))
		}
		g.comes(t, shown(twice))
	}
}

// P12.1: with Join: of each row of left, in order, with each of right, in order, both's values, one behind the other

func TestJoins(t *testing.T) {
	come(t, map[string]string{
		"select * from t join u on t.k = r":      "[1 'b' 5 8 1 'a'] [3 'b' 5 7 3 'b'] [3 'b' 5 9 3 'b']",
		"select * from t join u on r = t.k":      "[1 'b' 5 8 1 'a'] [3 'b' 5 7 3 'b'] [3 'b' 5 9 3 'b']",
		"select * from t join u on t.k = u.k":    "[3 'b' 5 3 6 'c']",
		"select * from t join u on u.k = t.k":    "[3 'b' 5 3 6 'c']",
		"select t.k, u.k from t join u on a = r": "[2 7] [2 9]",
		"select t.k, u.k from t join u on x = y": "[1 7] [1 9] [2 8] [3 7] [3 9]",
		"select t.k, u.k from t join u on y = x": "[1 7] [1 9] [2 8] [3 7] [3 9]",
		"select u.k, t.k from t join u on x = y": "[7 1] [9 1] [8 2] [7 3] [9 3]",
		"select * from t join u on a = u.k":      "[2 'a' 3 3 6 'c']",
		"select u.y, t.x from t join u on r = a": "['b' 'a'] ['b' 'a']",
	})
}

// P12.1: both On columns may be one table's: then of each row of the other the same are taken

func TestJoinsOnOneTable(t *testing.T) {
	left, right := table("t", "k int", "a int"), table("u", "b int", "c int")
	g := given{Left: left, Right: right, Lrows: [][]api.Value{ints(1, 1), ints(2, 3), ints(4, 4)}, Rrows: [][]api.Value{ints(5, 6), ints(7, 7)}}
	for text, want := range map[string]string{
		"select * from t join u on k = a": "[1 1 5 6] [1 1 7 7] [4 4 5 6] [4 4 7 7]",
		"select * from t join u on a = k": "[1 1 5 6] [1 1 7 7] [4 4 5 6] [4 4 7 7]",
		"select * from t join u on b = c": "[1 1 7 7] [2 3 7 7] [4 4 7 7]",
		"select * from t join u on a = a": "[1 1 5 6] [1 1 7 7] [2 3 5 6] [2 3 7 7] [4 4 5 6] [4 4 7 7]",
		"select * from t join u on c = b": "[1 1 7 7] [2 3 7 7] [4 4 7 7]",
	} {
		g.St = stmt(t, text)
		if e := typed.Check(g.schema(), g.St); e != api.OK {
			t.Fatalf("Check of %q is %d", text, e)
		}
		g.comes(t, want)
	}
}

// Alike is what value.Compare says: the whole number, each byte of a text, and of both kinds none with the other.
func TestAlikeOnColumns(t *testing.T) {
	ns, xs := []api.Value{whole(0), whole(1), whole(-1), whole(1 << 62), whole(-1 << 63), whole(1<<63 - 1), whole(1 << 32)}, []api.Value{written(""), written("a"), written("A"), written("a "), written("ab"), written("1"), written("0")}
	for _, l := range [][]api.Value{ns, xs} {
		g := given{St: stmt(t, "select * from t join u on k = r"), Left: table("t", "k int"), Right: table("u", "r int")}
		var want [][]api.Value
		for _, v := range l {
			g.Lrows = append(g.Lrows, []api.Value{v})
			g.Rrows = append(g.Rrows, []api.Value{v})
			want = append(want, []api.Value{v, v})
		}
		g.comes(t, shown(want))
	}
}

// Rows that are alike are so many rows, in left as in right.
func TestJoinsOfAlikeRows(t *testing.T) {
	g := given{St: stmt(t, "select * from t join u on t.k = u.k"), Left: table("t", "k int"), Right: table("u", "k int"), Lrows: downward(1, 2, 1), Rrows: downward(1, 1, 3, 2)}
	g.comes(t, "[1 1] [1 1] [2 2] [1 1] [1 1]")
	g.St = stmt(t, "select count(*), sum(t.k) from t join u on t.k = u.k")
	g.comes(t, "[5 6]")
}

// P12.1: no row of either table

func TestNoRows(t *testing.T) {
	for _, text := range []string{"select * from t", "select k, a from t where k > 0", "select x from t order by k", "select x from t where 9223372036854775807 + 1 = 0 order by k desc"} {
		g := asking(t, text)
		g.Lrows = nil
		g.comes(t, "")
		g.Lrows = [][]api.Value{}
		g.comes(t, "")
	}
	for _, text := range []string{"select * from t join u on t.k = u.k", "select * from t join u on x = y where r > 0 order by r desc", "select a from t join u on a = a", "select * from t join u on y = y where 9223372036854775807 + 1 = 0"} {
		for i := range 3 {
			g := asking(t, text)
			if i != 1 {
				g.Lrows = nil
			}
			if i != 2 {
				g.Rrows = nil
			}
			g.comes(t, "")
		}
	}
}

// Each column has its table's name, and its own: the tables' own names, whatever right is named without a Join.
func TestNamesOfColumns(t *testing.T) {
	g := given{St: stmt(t, "select k, a.k from a"), Left: table("a", "k int"), Right: table("b", "k int"), Lrows: downward(1, 2), Rrows: downward(2, 3)}
	g.comes(t, "[1 1] [2 2]")
	g.St = stmt(t, "select b.k, a.k from a join b on a.k = b.k where a.k + b.k = 4 order by b.k")
	g.comes(t, "[2 2]")
	g.St = stmt(t, "select a.k from a join b on a.k = a.k where b.k = 3")
	g.comes(t, "[1] [2]")
	g.St = stmt(t, "select max(b.k), max(a.k), min(b.k), min(a.k) from a join b on a.k = a.k")
	g.comes(t, "[3 2 2 1]")
}
