package eval_test

import (
	"fmt"
	"math"
	"strings"
	"testing"

	"quarantine/api"
	"quarantine/eval"
	"quarantine/parse"
)

// where tells the expression of a text.
func where(t *testing.T, text string) api.Expr {
	t.Helper()
	st, at, e := parse.Parse("delete from t where " + text)
	if e != api.OK {
		t.Fatalf("Parse of %q is %d at %d", text, e, at)
	}
	return st.Where[0]
}

// brief tells x as a text that is not too long to be read.
func brief(x any) string {
	s := strings.ToValidUTF8(fmt.Sprintf("%+v", x), "?")
	return s[:min(len(s), 1000)]
}

// over is the columns of the tests: a, x and flag are one table's, both is two tables'.
func over() ([]api.Item, []api.Value) {
	cols := []api.Item{{Table: "t", Name: "a"}, {Table: "t", Name: "x"}, {Table: "t", Name: "both"}, {Table: "u", Name: "both"}, {Table: "u", Name: "b"}, {Table: "u", Name: "flag"}}
	return cols, []api.Value{whole(3), written("it's"), whole(-7), written(""), written("b"), truth(true)}
}

// comes asks for what e comes to over these columns.
func comes(t *testing.T, e api.Expr, want api.Value) {
	t.Helper()
	cols, vals := over()
	if got, err := eval.Eval(cols, vals, e); err != api.OK || got != want {
		t.Errorf("%s comes to %+v, %d, not %+v", brief(e), got, err, want)
	}
}

// fails asks for this error of e, and for nothing beside it (R2).
func fails(t *testing.T, e api.Expr, want api.Errno) {
	t.Helper()
	cols, vals := over()
	if got, err := eval.Eval(cols, vals, e); err != want || got != (api.Value{}) {
		t.Errorf("%s comes to %+v, %d, not to %d", brief(e), got, err, want)
	}
}

func whole(n int64) api.Value { return api.Value{Kind: api.Int, Int: n} }

func written(s string) api.Value { return api.Value{Kind: api.Text, Text: s} }

func truth(is bool) api.Value {
	v := api.Value{Kind: api.Bool}
	if is {
		v.Int++
	}
	return v
}

func lit(v api.Value) api.Expr { return api.Expr{Op: api.ExLit, Value: v} }

func number(n int64) api.Expr { return lit(whole(n)) }

func text(s string) api.Expr { return lit(written(s)) }

func column(name string) api.Expr { return api.Expr{Op: api.ExCol, Name: name} }

func columnOf(table, name string) api.Expr {
	return api.Expr{Op: api.ExCol, Table: table, Name: name}
}

func op(kind int, args ...api.Expr) api.Expr { return api.Expr{Op: kind, Args: args} }

func exprs(l ...api.Expr) []api.Expr { return l }

// yes and no are comparisons that come to 1 and to 0.
func yes() api.Expr { return op(api.ExLt, number(1), number(2)) }

func no() api.Expr { return op(api.ExEq, text("a"), text("b")) }

// runsOver is a number that there is not.
func runsOver() api.Expr { return op(api.ExAdd, number(math.MaxInt64), number(1)) }

// wrong is an expression for each error that one may have. The last fits its columns, the others do not.
func wrong() []struct {
	e   api.Expr
	err api.Errno
} {
	return []struct {
		e   api.Expr
		err api.Errno
	}{
		{op(api.ExNeg), api.ErrArg},
		{column("none"), api.ErrColumn},
		{op(api.ExNeg, text("a")), api.ErrType},
		{runsOver(), api.ErrOverflow},
	}
}

// asTruth tells an expression whose value is a Bool, if it has one, with the error of e, which is a number.
func asTruth(e api.Expr) api.Expr { return op(api.ExEq, e, number(0)) }

// ofNone, ofOne and ofTwo are the ways of no part, of one, and of two.
var (
	ofNone   = []int{api.ExLit, api.ExCol}
	ofOne    = []int{api.ExNeg, api.ExNot}
	sums     = []int{api.ExAdd, api.ExSub, api.ExMul}
	compares = []int{api.ExEq, api.ExNe, api.ExLt, api.ExLe, api.ExGt, api.ExGe}
	ofTwo    = []int{api.ExAdd, api.ExSub, api.ExMul, api.ExEq, api.ExNe, api.ExLt, api.ExLe, api.ExGt, api.ExGe, api.ExAnd, api.ExOr}
)

// noOps are numbers that are no way.
var noOps = []int{math.MinInt, -1, 0, api.ExOr + 1, api.ExOr + 2, 100, math.MaxInt}

// dice is a row of numbers that looks like chance, and is the same each time.
type dice uint32

func (d *dice) next(n int) int {
	*d = *d*1664525 + 1013904223
	return int(*d>>16) % n
}

func pick[T any](d *dice, l ...T) T { return l[d.next(len(l))] }
