package show_test

import (
	"strings"
	"testing"

	"quarantine/api"
	"quarantine/show"
)

func number(n int64) api.Expr {
	return api.Expr{Op: api.ExLit, Value: api.Value{Kind: api.Int, Int: n}}
}

func text(s string) api.Expr {
	return api.Expr{Op: api.ExLit, Value: api.Value{Kind: api.Text, Text: s}}
}

// column is that of a name, or of a table, a point and a name.
func column(s string) api.Expr {
	if table, name, ok := strings.Cut(s, "."); ok {
		return api.Expr{Op: api.ExCol, Table: table, Name: name}
	}
	return api.Expr{Op: api.ExCol, Name: s}
}

func op(op int, args ...api.Expr) api.Expr { return api.Expr{Op: op, Args: args} }

func exprs(l ...api.Expr) []api.Expr { return l }

// between has each word that stands between two parts, and what it means.
var between = []struct {
	word string
	op   int
}{
	{"+", api.ExAdd}, {"-", api.ExSub}, {"*", api.ExMul},
	{"=", api.ExEq}, {"<>", api.ExNe}, {"<", api.ExLt}, {"<=", api.ExLe}, {">", api.ExGt}, {">=", api.ExGe},
	{"and", api.ExAnd}, {"or", api.ExOr},
}

// dice is a row of numbers that looks like chance, and is the same each time.
type dice uint32

func (d *dice) next(n int) int {
	*d = *d*1664525 + 1013904223
	return int(*d>>16) % n
}

// brief tells the beginning of a text: one that is long is too much to be read.
func brief(s string) string { return s[:min(len(s), 600)] }

// expr asks for this text of x.
func expr(t *testing.T, x api.Expr, want string) {
	t.Helper()
	if got := show.Expr(x); got != want {
		t.Errorf("Expr is %q, not %q", brief(got), brief(want))
	}
}

// stmt asks for this text of st.
func stmt(t *testing.T, st api.Stmt, want string) {
	t.Helper()
	if got := show.Show(st); got != want {
		t.Errorf("Show is %q, not %q", brief(got), brief(want))
	}
}
