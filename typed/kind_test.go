package typed_test

import (
	"slices"
	"testing"

	"quarantine/api"
	"quarantine/typed"
)

// P10.1 ExLit

func TestLiterals(t *testing.T) {
	kind(t, number(0), api.Int)
	kind(t, number(-1<<63), api.Int)
	kind(t, text(""), api.Text)
	kind(t, text("it's"), api.Text)
	for _, k := range allKinds {
		kind(t, lit(k), k)
	}
	// Whether it may be a value (4) is not asked here, and what a literal does not have says nothing.
	kind(t, api.Expr{Op: api.ExLit, Value: api.Value{Kind: api.Int, Int: 1, Text: "\x00"}}, api.Int)
	kind(t, api.Expr{Op: api.ExLit, Value: api.Value{Kind: api.Text, Int: 1, Text: string(make([]byte, 99))}}, api.Text)
	kind(t, api.Expr{Op: api.ExLit, Value: api.Value{Kind: api.Text}, Table: "none", Name: "none"}, api.Text)
}

// P10.1 ExCol

func TestColumns(t *testing.T) {
	for _, x := range []struct {
		table, name string
		kind        int
	}{
		{"", "a", api.Int}, {"t", "a", api.Int},
		{"", "x", api.Text}, {"t", "x", api.Text},
		{"", "b", api.Text}, {"u", "b", api.Text},
		{"t", "both", api.Int}, {"u", "both", api.Text},
	} {
		kind(t, columnOf(x.table, x.name), x.kind)
		kind(t, api.Expr{Op: api.ExCol, Table: x.table, Name: x.name, Value: api.Value{Kind: api.Bool}}, x.kind)
	}
	for _, x := range []struct{ table, name string }{
		{"", "both"},
		{"", "none"}, {"t", "none"}, {"none", "a"}, {"none", "both"}, {"none", "none"},
		{"u", "a"}, {"t", "b"}, {"u", "x"},
		{"", ""}, {"t", ""}, {"", "t"}, {"a", "t"},
		{"", "A"}, {"", "aa"}, {"T", "a"}, {"tt", "a"}, {"", "t.a"}, {"", "bot"},
	} {
		noKind(t, columnOf(x.table, x.name), api.ErrColumn)
	}
}

// What is told is the column's kind, also if it is none; what is selected of a column says nothing.
func TestColumnsOfAnyKind(t *testing.T) {
	for _, k := range allKinds {
		for _, agg := range []int{-1, api.AggNone, api.AggCount, api.AggSum, api.AggMax, 9} {
			cols := []api.Item{{Name: "z"}, {Agg: agg, Table: "t", Name: "a"}}
			if got, e := typed.Kind(cols, []int{api.Int, k}, column("a")); got != k || e != api.OK {
				t.Errorf("a column of kind %d is %d, %d", k, got, e)
			}
		}
	}
}

// One column that stands twice in one table is more than one, with its table, too; of three as well.
func TestColumnsThatStandTwice(t *testing.T) {
	for n := range 4 {
		cols := append(slices.Repeat([]api.Item{{Table: "t", Name: "a"}}, n), api.Item{Table: "t", Name: "b"}, api.Item{Table: "u", Name: "c"})
		kinds := append(slices.Repeat([]int{api.Int}, n), api.Text, api.Text)
		for _, e := range exprs(column("a"), columnOf("t", "a")) {
			want, err := 0, api.ErrColumn
			if n == 1 {
				want, err = api.Int, api.OK
			}
			if got, e := typed.Kind(cols, kinds, e); got != want || e != err {
				t.Errorf("a column that stands there %d times: %d, %d", n, got, e)
			}
		}
	}
}

// A name that is empty is a name; a table that is empty is none that is asked for.
func TestEmptyNames(t *testing.T) {
	cols := []api.Item{{Table: "", Name: ""}, {Table: "t", Name: "a"}, {Table: "", Name: "b"}, {Table: "t", Name: "b"}}
	kinds := []int{api.Text, api.Int, api.Text, api.Int}
	for _, x := range []struct {
		e    api.Expr
		kind int
		err  api.Errno
	}{
		{column(""), api.Text, api.OK}, {columnOf("t", ""), 0, api.ErrColumn}, {column("a"), api.Int, api.OK},
		{column("b"), 0, api.ErrColumn}, {columnOf("t", "b"), api.Int, api.OK},
	} {
		if got, e := typed.Kind(cols, kinds, x.e); got != x.kind || e != x.err {
			t.Errorf("%+v: %d, %d", x.e, got, e)
		}
	}
}

// P10.1: cols and kinds: as many as both have

func TestAsManyAsBothHave(t *testing.T) {
	cols := []api.Item{{Table: "t", Name: "a"}, {Table: "t", Name: "b"}, {Table: "u", Name: "a"}, {Table: "u", Name: "c"}}
	kinds := []int{api.Int, api.Text, api.Text, api.Int}
	for n := range len(cols) + 1 {
		for m := range len(kinds) + 1 {
			have := min(n, m)
			for _, e := range exprs(column("a"), columnOf("t", "a"), columnOf("u", "a"), column("b"), column("c")) {
				var of []int
				for i, c := range cols[:have] {
					if c.Name == e.Name && (e.Table == "" || c.Table == e.Table) {
						of = append(of, kinds[i])
					}
				}
				want, err := 0, api.ErrColumn
				if len(of) == 1 {
					want, err = of[0], api.OK
				}
				// What stands in the spare room says nothing either.
				if got, e2 := typed.Kind(cols[:n], kinds[:m], e); got != want || e2 != err {
					t.Errorf("%d columns, %d kinds, %+v: %d, %d, not %d, %d", n, m, e, got, e2, want, err)
				}
			}
		}
	}
	for _, l := range [][]api.Item{nil, {}} {
		if got, e := typed.Kind(l, kinds, column("a")); got != 0 || e != api.ErrColumn {
			t.Errorf("of no columns: %d, %d", got, e)
		}
		if got, e := typed.Kind(l, nil, number(1)); got != api.Int || e != api.OK {
			t.Errorf("of no columns: %d, %d", got, e)
		}
	}
}

// P10.1: each way with each kind on each side

func TestWaysOfOne(t *testing.T) {
	for _, k := range allKinds {
		for o, need := range map[int]int{api.ExNeg: api.Int, api.ExNot: api.Bool} {
			if k == need {
				kind(t, op(o, lit(k)), need)
			} else {
				noKind(t, op(o, lit(k)), api.ErrType)
			}
		}
	}
}

func TestWaysOfTwo(t *testing.T) {
	type pair struct{ left, right int }
	fits := map[int]map[pair]int{}
	for _, o := range []int{api.ExAdd, api.ExSub, api.ExMul} {
		fits[o] = map[pair]int{{api.Int, api.Int}: api.Int}
	}
	for _, o := range []int{api.ExEq, api.ExNe, api.ExLt, api.ExLe, api.ExGt, api.ExGe} {
		fits[o] = map[pair]int{{api.Int, api.Int}: api.Bool, {api.Text, api.Text}: api.Bool}
	}
	for _, o := range []int{api.ExAnd, api.ExOr} {
		fits[o] = map[pair]int{{api.Bool, api.Bool}: api.Bool}
	}
	for _, o := range ofTwo {
		for _, left := range allKinds {
			for _, right := range allKinds {
				if want, ok := fits[o][pair{left, right}]; ok {
					kind(t, op(o, lit(left), lit(right)), want)
				} else {
					noKind(t, op(o, lit(left), lit(right)), api.ErrType)
				}
			}
		}
	}
}

// Parts are columns and other expressions as well as literals.
func TestWaysWithinWays(t *testing.T) {
	a, x := column("a"), column("x")
	sum := op(api.ExAdd, a, op(api.ExMul, number(2), op(api.ExNeg, a)))
	less, same := op(api.ExLt, sum, a), op(api.ExEq, x, columnOf("u", "both"))
	kind(t, sum, api.Int)
	kind(t, less, api.Bool)
	kind(t, same, api.Bool)
	kind(t, op(api.ExOr, op(api.ExNot, less), op(api.ExAnd, same, less)), api.Bool)
	kind(t, op(api.ExSub, sum, sum), api.Int)
	kind(t, op(api.ExLe, columnOf("t", "both"), sum), api.Bool)
	noKind(t, op(api.ExEq, less, same), api.ErrType)
	noKind(t, op(api.ExAdd, sum, less), api.ErrType)
	noKind(t, op(api.ExAnd, less, sum), api.ErrType)
	noKind(t, op(api.ExNot, sum), api.ErrType)
	noKind(t, op(api.ExNeg, less), api.ErrType)
	noKind(t, op(api.ExNot, x), api.ErrType)
	noKind(t, op(api.ExGe, x, a), api.ErrType)
	noKind(t, op(api.ExGe, a, column("both")), api.ErrColumn)
	noKind(t, op(api.ExOr, op(api.ExNot, less), op(api.ExAnd, same, op(api.ExLt, a, x))), api.ErrType)
}

// What a way does not have says nothing.
func TestWaysWithOtherFields(t *testing.T) {
	e := op(api.ExAdd, number(1), number(2))
	e.Value, e.Table, e.Name = api.Value{Kind: api.Text, Text: "a"}, "none", "none"
	kind(t, e, api.Int)
}

// P10.1 ErrArg: another Op

func TestOpsThatAreNone(t *testing.T) {
	args := exprs(number(1), number(2), number(3))
	for _, o := range noOps {
		for n := range len(args) + 1 {
			noKind(t, api.Expr{Op: o, Name: "a", Value: api.Value{Kind: api.Int}, Args: args[:n]}, api.ErrArg)
		}
		for _, bad := range wrong() {
			noKind(t, op(o, bad), api.ErrArg)
			noKind(t, op(o, bad, bad), api.ErrArg)
		}
		noKind(t, op(api.ExNeg, op(o)), api.ErrArg)
	}
}

// P10.1 ErrArg: another number of Args, ahead of all that they say

func TestOtherNumbersOfArgs(t *testing.T) {
	for want, ops := range [][]int{ofNone, ofOne, ofTwo} {
		for _, o := range ops {
			for n := range 5 {
				if n == want {
					continue
				}
				for _, arg := range append(exprs(number(1), text("a"), holds(), column("a")), wrong()[api.ErrArg], wrong()[api.ErrColumn], wrong()[api.ErrType]) {
					// As a column it is one that is there, and one that is not: neither is told.
					for _, name := range []string{"a", "both", "none"} {
						e := api.Expr{Op: o, Name: name, Value: api.Value{Kind: api.Int}, Args: slices.Repeat(exprs(arg), n)}
						noKind(t, e, api.ErrArg)
						noKind(t, op(api.ExNot, e), api.ErrArg)
						noKind(t, op(api.ExAdd, number(1), e), api.ErrArg)
					}
				}
			}
		}
	}
	// No Args: nil and an empty list are one.
	kind(t, api.Expr{Op: api.ExCol, Name: "a", Args: []api.Expr{}}, api.Int)
	noKind(t, api.Expr{Op: api.ExNot, Args: []api.Expr{}}, api.ErrArg)
}

// P10.1: Args from the left, each one's error first

func TestWhichErrorOfArgs(t *testing.T) {
	for left, x := range wrong() {
		for _, o := range ofOne {
			noKind(t, op(o, x), left)
		}
		for _, o := range ofTwo {
			for _, y := range wrong() {
				noKind(t, op(o, x, y), left)
			}
			// The one that has none does not hide the other one's, whether it fits or not.
			for _, k := range allKinds {
				noKind(t, op(o, x, lit(k)), left)
				noKind(t, op(o, lit(k), x), left)
			}
			// Nor does it matter how deep it lies: all of the left one is looked at first.
			for _, y := range wrong() {
				noKind(t, op(o, op(api.ExAnd, op(api.ExNot, op(api.ExOr, holds(), x)), y), y), left)
				noKind(t, op(o, op(api.ExLt, number(1), x), op(o)), left)
			}
		}
	}
	noKind(t, op(api.ExAdd, op(api.ExNot, number(1)), column("none")), api.ErrType)
	noKind(t, op(api.ExAdd, column("none"), op(api.ExNot, number(1))), api.ErrColumn)
	noKind(t, op(api.ExAdd, column("none"), op(77)), api.ErrColumn)
	noKind(t, op(api.ExAdd, column("none"), column("a"), op(77)), api.ErrArg)
}

// Limits: expressions may be nested as deep as is promised, and be as long.

func TestDeepExpressions(t *testing.T) {
	const deep = 1 << 16
	negs, nots, lefts, rights := column("a"), holds(), number(1), number(1)
	for range deep - 2 {
		negs, nots = op(api.ExNeg, negs), op(api.ExNot, nots)
		lefts, rights = op(api.ExAdd, lefts, number(1)), op(api.ExSub, number(1), rights)
	}
	kind(t, negs, api.Int)
	kind(t, nots, api.Bool)
	kind(t, lefts, api.Int)
	kind(t, rights, api.Int)
	noKind(t, op(api.ExNot, negs), api.ErrType)
	for err, e := range wrong() {
		for range deep - 2 {
			e = op(api.ExNot, e)
		}
		noKind(t, e, err)
	}
	checks(t, town(t), api.Stmt{Kind: api.StDelete, Table: "t", Where: exprs(nots)}, api.OK)
}
