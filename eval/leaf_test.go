package eval_test

import (
	"math"
	"slices"
	"strings"
	"testing"

	"quarantine/api"
	"quarantine/eval"
)

// P11.1: a literal of each kind

func TestLiterals(t *testing.T) {
	for _, v := range []api.Value{
		whole(0), whole(1), whole(-1), whole(math.MaxInt64), whole(math.MinInt64),
		written(""), written("a"), written("it's"), written(strings.Repeat("~", api.MaxLetter)),
		truth(false), truth(true),
	} {
		comes(t, lit(v), v)
		if got, e := eval.Eval(nil, nil, lit(v)); got != v || e != api.OK {
			t.Errorf("over no columns %+v comes to %+v, %d", v, got, e)
		}
		// What a literal does not have says nothing, and no Args and an empty list of them are one.
		comes(t, api.Expr{Op: api.ExLit, Value: v, Table: "none", Name: "none", Args: []api.Expr{}}, v)
		comes(t, api.Expr{Op: api.ExLit, Value: v, Name: "a"}, v)
	}
}

// What may not be a value (4) comes to itself all the same: whether it may be one is not asked here.
func TestLiteralsThatAreNoValues(t *testing.T) {
	for _, v := range []api.Value{{}, {Kind: -1}, {Kind: 4, Int: 5, Text: "b"}, written("\x00\xff"), written(strings.Repeat("a", 99)), {Kind: api.Int, Int: 1, Text: "a"}, {Kind: api.Text, Int: 1, Text: "a"}} {
		comes(t, lit(v), v)
	}
}

// P11.1, P10.1: each column has its value, by its name alone and with its table

func TestColumns(t *testing.T) {
	for _, x := range []struct {
		table, name string
		want        api.Value
	}{
		{"", "a", whole(3)}, {"t", "a", whole(3)},
		{"", "x", written("it's")}, {"t", "x", written("it's")},
		{"", "b", written("b")}, {"u", "b", written("b")},
		{"t", "both", whole(-7)}, {"u", "both", written("")},
		{"", "flag", truth(true)}, {"u", "flag", truth(true)},
	} {
		comes(t, columnOf(x.table, x.name), x.want)
		// What a column does not have says nothing.
		comes(t, api.Expr{Op: api.ExCol, Table: x.table, Name: x.name, Value: whole(9), Args: []api.Expr{}}, x.want)
	}
}

// What is told is the column's value, whatever it is; what is selected of a column says nothing.
func TestColumnsOfAnyValue(t *testing.T) {
	for _, v := range []api.Value{whole(math.MinInt64), whole(math.MaxInt64), written(""), written("a\x00"), truth(false), {}, {Kind: 9, Int: 1, Text: "a"}} {
		for _, agg := range []int{-1, api.AggNone, api.AggCount, api.AggSum, api.AggMax, 9} {
			cols := []api.Item{{Name: "z"}, {Agg: agg, Table: "t", Name: "a"}, {Table: "t", Name: "c"}}
			if got, e := eval.Eval(cols, []api.Value{whole(1), v, whole(2)}, column("a")); got != v || e != api.OK {
				t.Errorf("a column whose value is %+v comes to %+v, %d", v, got, e)
			}
		}
	}
}

// Columns that are not there, and one of two: as typed.Kind tells.
func TestColumnsThatAreNot(t *testing.T) {
	for _, x := range []struct{ table, name string }{
		{"", "both"},
		{"", "none"}, {"t", "none"}, {"none", "a"}, {"none", "both"}, {"none", "none"},
		{"u", "a"}, {"t", "b"}, {"u", "x"},
		{"", ""}, {"t", ""}, {"", "t"}, {"a", "t"},
		{"", "A"}, {"", "aa"}, {"T", "a"}, {"tt", "a"}, {"", "t.a"}, {"", "bot"},
	} {
		fails(t, columnOf(x.table, x.name), api.ErrColumn)
	}
	for n := range 4 {
		cols := append(slices.Repeat([]api.Item{{Table: "t", Name: "a"}}, n), api.Item{Table: "t", Name: "b"})
		vals := append(slices.Repeat([]api.Value{whole(5)}, n), whole(6))
		want, err := api.Value{}, api.ErrColumn
		if n == 1 {
			want, err = whole(5), api.OK
		}
		for _, e := range exprs(column("a"), columnOf("t", "a")) {
			if got, e := eval.Eval(cols, vals, e); got != want || e != err {
				t.Errorf("a column that stands there %d times: %+v, %d", n, got, e)
			}
		}
	}
}

// A name that is empty is a name; a table that is empty is none that is asked for.
func TestEmptyNames(t *testing.T) {
	cols := []api.Item{{Table: "", Name: ""}, {Table: "t", Name: "a"}, {Table: "", Name: "b"}, {Table: "t", Name: "b"}}
	vals := []api.Value{whole(1), whole(2), whole(3), whole(4)}
	for _, x := range []struct {
		e    api.Expr
		want api.Value
		err  api.Errno
	}{
		{column(""), whole(1), api.OK}, {columnOf("t", ""), api.Value{}, api.ErrColumn}, {column("a"), whole(2), api.OK},
		{column("b"), api.Value{}, api.ErrColumn}, {columnOf("t", "b"), whole(4), api.OK},
	} {
		if got, e := eval.Eval(cols, vals, x.e); got != x.want || e != x.err {
			t.Errorf("%+v: %+v, %d", x.e, got, e)
		}
	}
}

// P10.1: cols and vals: as many as both have

func TestAsManyAsBothHave(t *testing.T) {
	cols := []api.Item{{Table: "t", Name: "a"}, {Table: "t", Name: "b"}, {Table: "u", Name: "a"}, {Table: "u", Name: "c"}}
	vals := []api.Value{whole(1), written("b"), whole(3), whole(4)}
	for n := range len(cols) + 1 {
		for m := range len(vals) + 1 {
			for _, e := range exprs(column("a"), columnOf("t", "a"), columnOf("u", "a"), column("b"), column("c")) {
				var of []api.Value
				for i, c := range cols[:min(n, m)] {
					if c.Name == e.Name && (e.Table == "" || c.Table == e.Table) {
						of = append(of, vals[i])
					}
				}
				want, err := api.Value{}, api.ErrColumn
				if len(of) == 1 {
					want, err = of[0], api.OK
				}
				// What stands in the spare room says nothing either.
				if got, e2 := eval.Eval(cols[:n], vals[:m], e); got != want || e2 != err {
					t.Errorf("%d columns, %d values, %+v: %+v, %d, not %+v, %d", n, m, e, got, e2, want, err)
				}
			}
		}
	}
	for _, l := range [][]api.Item{nil, {}} {
		if got, e := eval.Eval(l, vals, column("a")); got != (api.Value{}) || e != api.ErrColumn {
			t.Errorf("of no columns: %+v, %d", got, e)
		}
	}
}
