package typed

import (
	"slices"

	"quarantine/api"
)

// column is one that an expression may name.
type column struct {
	table, name string
	kind        int
}

// scope is all columns that an expression may name.
type scope []column

// paired tells the columns that have a kind; a kind without a column says nothing.
func paired(cols []api.Item, kinds []int) scope {
	in, _ := fold(cols[:min(len(cols), len(kinds))], nil, func(in scope, c api.Item) (scope, api.Errno) {
		return append(in, column{c.Table, c.Name, kinds[len(in)]}), api.OK
	})
	return in
}

// columns tells those of a table.
func columns(t api.Table) scope {
	in, _ := fold(t.Cols, nil, func(in scope, c api.Col) (scope, api.Errno) {
		return append(in, column{t.Name, c.Name, c.Kind}), api.OK
	})
	return in
}

// column tells the kind of the one column of that name, of that table, if one is named.
func (in scope) column(table, name string) (int, api.Errno) {
	found := such(in, func(c column) bool {
		return c.name == name && (table == "" || c.table == table)
	})
	if len(found) != 1 {
		return 0, api.ErrColumn
	}
	return found[0].kind, api.OK
}

// way is what an operation asks of its parts, all of which are of one kind, and what it makes of them.
type way struct {
	args int
	of   []int
	to   int
}

// wayOf tells the way of op; false: there is none.
func wayOf(op int) (way, bool) {
	switch op {
	case api.ExLit, api.ExCol:
		return way{}, true
	case api.ExNeg:
		return way{1, []int{api.Int}, api.Int}, true
	case api.ExNot:
		return way{1, []int{api.Bool}, api.Bool}, true
	case api.ExAdd, api.ExSub, api.ExMul:
		return way{2, []int{api.Int}, api.Int}, true
	case api.ExEq, api.ExNe, api.ExLt, api.ExLe, api.ExGt, api.ExGe:
		return way{2, []int{api.Int, api.Text}, api.Bool}, true
	case api.ExAnd, api.ExOr:
		return way{2, []int{api.Bool}, api.Bool}, true
	}
	return way{}, false
}

// takes tells whether parts of these kinds fit.
func (w way) takes(kinds []int) bool {
	return alike(kinds) && all(kinds, func(kind int) bool { return slices.Contains(w.of, kind) })
}

// kind tells the kind of e's value.
func (in scope) kind(e api.Expr) (int, api.Errno) {
	w, ok := wayOf(e.Op)
	if !ok || len(e.Args) != w.args {
		return 0, api.ErrArg
	}
	switch e.Op {
	case api.ExLit:
		return e.Value.Kind, api.OK
	case api.ExCol:
		return in.column(e.Table, e.Name)
	}
	kinds, err := each(e.Args, in.kind)
	if err != api.OK {
		return 0, err
	}
	if !w.takes(kinds) {
		return 0, api.ErrType
	}
	return w.to, api.OK
}

// fits tells e's error, or ErrType: its value is of another kind.
func (in scope) fits(e api.Expr, kind int) api.Errno {
	got, err := in.kind(e)
	if err == api.OK && got != kind {
		return api.ErrType
	}
	return err
}
