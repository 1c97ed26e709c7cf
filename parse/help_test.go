package parse_test

import (
	"fmt"
	"reflect"
	"strings"
	"testing"

	"quarantine/api"
	"quarantine/parse"
)

func number(n int64) api.Expr {
	return api.Expr{Op: api.ExLit, Value: api.Value{Kind: api.Int, Int: n}}
}

func text(s string) api.Expr {
	return api.Expr{Op: api.ExLit, Value: api.Value{Kind: api.Text, Text: s}}
}

// column is that of a name, or of a table, a point and a name.
func column(s string) api.Expr {
	if table, name, ok := strings.Cut(s, "."); ok {
		return api.Expr{Op: api.ExCol, Table: table, Name: name}
	}
	return api.Expr{Op: api.ExCol, Name: s}
}

func op(op int, args ...api.Expr) api.Expr { return api.Expr{Op: op, Args: args} }

func exprs(l ...api.Expr) []api.Expr { return l }

// plainStmt tells st with nil for each empty list: they are one.
func plainStmt(st api.Stmt) api.Stmt {
	if len(st.Cols) == 0 {
		st.Cols = nil
	}
	if len(st.Tags) == 0 {
		st.Tags = nil
	}
	if len(st.Items) == 0 {
		st.Items = nil
	}
	st.Values, st.On, st.Where, st.Order = plainExprs(st.Values), plainExprs(st.On), plainExprs(st.Where), plainExprs(st.Order)
	var inner []api.Stmt
	for _, x := range st.Inner {
		inner = append(inner, plainStmt(x))
	}
	st.Inner = inner
	return st
}

func plainExprs(l []api.Expr) []api.Expr {
	var out []api.Expr
	for _, x := range l {
		x.Args = plainExprs(x.Args)
		out = append(out, x)
	}
	return out
}

// brief tells the beginning of a statement: one that is deep is too long to be read.
func brief(st api.Stmt) string {
	s := fmt.Sprintf("%+v", st)
	return s[:min(len(s), 600)]
}

// good asks for this statement, field by field.
func good(t *testing.T, s string, want api.Stmt) {
	t.Helper()
	st, at, e := parse.Parse(s)
	if !reflect.DeepEqual(plainStmt(st), plainStmt(want)) || at != 0 || e != api.OK {
		t.Errorf("Parse(%q) is %s, %d, %d, not %s", s, brief(st), at, e, brief(want))
	}
}

// bad asks for this error at this place, and for no statement.
func bad(t *testing.T, s string, place int, want api.Errno) {
	t.Helper()
	st, at, e := parse.Parse(s)
	if !reflect.DeepEqual(plainStmt(st), api.Stmt{}) || at != place || e != want {
		t.Errorf("Parse(%q) is %s, %d, %d, not nothing, %d, %d", s, brief(st), at, e, place, want)
	}
}
