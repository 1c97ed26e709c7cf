package typed_test

import (
	"fmt"
	"math"
	"strings"
	"testing"

	"quarantine/api"
	"quarantine/parse"
	"quarantine/schema"
	"quarantine/typed"
)

// stmt tells the statement of a text.
func stmt(t *testing.T, text string) api.Stmt {
	t.Helper()
	st, at, e := parse.Parse(text)
	if e != api.OK {
		t.Fatalf("Parse(%q) is %d at %d", text, e, at)
	}
	return st
}

// made tells the schema that these texts make.
func made(t *testing.T, texts ...string) api.Schema {
	t.Helper()
	var s api.Schema
	for _, text := range texts {
		next, e := schema.Add(s, stmt(t, text), api.Label{1, 5})
		if e != api.OK {
			t.Fatalf("Add of %q is %d", text, e)
		}
		s = next
	}
	return s
}

// town is a schema in which columns have both kinds, and names that two tables have, alike and unlike.
func town(t *testing.T) api.Schema {
	t.Helper()
	return made(t,
		"create table t(k int, x text, a int, both int)",
		"create table u(k text, r int ref t, b text, both int)",
		"create table w(c int, d text)",
		"create index on t(a)",
		"create view v strip 1 as select * from t",
		"create closure shut strip as delete from t",
	)
}

// brief tells x as a text that is not too long to be read.
func brief(x any) string {
	s := strings.ToValidUTF8(fmt.Sprintf("%+v", x), "?")
	return s[:min(len(s), 1000)]
}

// checks asks for this of st.
func checks(t *testing.T, s api.Schema, st api.Stmt, want api.Errno) {
	t.Helper()
	if e := typed.Check(s, st); e != want {
		t.Errorf("Check of %s is %d, not %d", brief(st), e, want)
	}
}

// checksText asks for this of each text.
func checksText(t *testing.T, s api.Schema, want map[string]api.Errno) {
	t.Helper()
	for text, e := range want {
		if got := typed.Check(s, stmt(t, text)); got != e {
			t.Errorf("Check of %q is %d, not %d", text, got, e)
		}
	}
}

// over is the columns of the tests of Kind: a and x are one table's, both is two tables'.
func over() ([]api.Item, []int) {
	cols := []api.Item{{Table: "t", Name: "a"}, {Table: "t", Name: "x"}, {Table: "t", Name: "both"}, {Table: "u", Name: "both"}, {Table: "u", Name: "b"}}
	return cols, []int{api.Int, api.Text, api.Int, api.Text, api.Text}
}

// kind asks for this kind of e's value.
func kind(t *testing.T, e api.Expr, want int) {
	t.Helper()
	cols, kinds := over()
	if got, err := typed.Kind(cols, kinds, e); err != api.OK || got != want {
		t.Errorf("Kind of %s is %d, %d, not %d", brief(e), got, err, want)
	}
}

// noKind asks for this error of e, and for 0 beside it (R2).
func noKind(t *testing.T, e api.Expr, want api.Errno) {
	t.Helper()
	cols, kinds := over()
	if got, err := typed.Kind(cols, kinds, e); err != want || got != 0 {
		t.Errorf("Kind of %s is %d, %d, not 0, %d", brief(e), got, err, want)
	}
}

func lit(kind int) api.Expr { return api.Expr{Op: api.ExLit, Value: api.Value{Kind: kind}} }

func number(n int64) api.Expr {
	return api.Expr{Op: api.ExLit, Value: api.Value{Kind: api.Int, Int: n}}
}

func text(s string) api.Expr {
	return api.Expr{Op: api.ExLit, Value: api.Value{Kind: api.Text, Text: s}}
}

func column(name string) api.Expr { return api.Expr{Op: api.ExCol, Name: name} }

func columnOf(table, name string) api.Expr {
	return api.Expr{Op: api.ExCol, Table: table, Name: name}
}

func op(kind int, args ...api.Expr) api.Expr { return api.Expr{Op: kind, Args: args} }

func exprs(l ...api.Expr) []api.Expr { return l }

func items(l ...api.Item) []api.Item { return l }

// holds is an expression whose value is a Bool.
func holds() api.Expr { return op(api.ExEq, number(1), number(1)) }

// wrong is an expression for each error that one may have.
func wrong() map[api.Errno]api.Expr {
	return map[api.Errno]api.Expr{api.ErrArg: op(api.ExNeg), api.ErrColumn: column("none"), api.ErrType: op(api.ExNeg, text("a"))}
}

// ofOne, ofTwo and ofNone are the ways of one part, of two, and of none.
var (
	ofOne  = []int{api.ExNeg, api.ExNot}
	ofTwo  = []int{api.ExAdd, api.ExSub, api.ExMul, api.ExEq, api.ExNe, api.ExLt, api.ExLe, api.ExGt, api.ExGe, api.ExAnd, api.ExOr}
	ofNone = []int{api.ExLit, api.ExCol}
)

// noOps are numbers that are no way.
var noOps = []int{math.MinInt, -1, 0, api.ExOr + 1, api.ExOr + 2, 100, math.MaxInt}

// allKinds are the kinds of values, and numbers that are none.
var allKinds = []int{api.Int, api.Text, api.Bool, 0, -1, 4, math.MaxInt, math.MinInt}

// dice is a row of numbers that looks like chance, and is the same each time.
type dice uint32

func (d *dice) next(n int) int {
	*d = *d*1664525 + 1013904223
	return int(*d>>16) % n
}

func pick[T any](d *dice, l ...T) T { return l[d.next(len(l))] }
