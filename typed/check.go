package typed

import (
	"cmp"

	"quarantine/api"
	"quarantine/schema"
)

// formed tells whether st is of a kind that there is, and whether this kind's lists have the lengths, and columns, that they must have.
func formed(st api.Stmt) bool {
	switch st.Kind {
	case api.StView, api.StClosure:
		return len(st.Inner) == 1
	case api.StSelect:
		return formedOn(st) && len(st.Where) <= 1 && len(st.Order) <= 1 && all(st.Order, isColumn)
	case api.StUpdate:
		return len(st.Values) == 1 && len(st.Where) <= 1
	case api.StDelete:
		return len(st.Where) <= 1
	}
	return api.StTable <= st.Kind && st.Kind <= api.StCall
}

// formedOn tells whether two columns stand there with a Join, and nothing without.
func formedOn(st api.Stmt) bool {
	if st.Join == "" {
		return len(st.On) == 0
	}
	return len(st.On) == 2 && all(st.On, isColumn)
}

func isColumn(e api.Expr) bool {
	return e.Op == api.ExCol && len(e.Args) == 0
}

func mayInsert(s api.Schema, st api.Stmt) api.Errno {
	t, ok := schema.Table(s, st.Table)
	if !ok {
		return api.ErrTable
	}
	if len(st.Values) != len(t.Cols) {
		return api.ErrLong
	}
	// A row that is new has no columns yet that its values could name.
	var none scope
	_, e := fold(st.Values, t.Cols, func(left []api.Col, v api.Expr) ([]api.Col, api.Errno) {
		return left[1:], none.fits(v, left[0].Kind)
	})
	return e
}

func maySelect(s api.Schema, st api.Stmt) api.Errno {
	in, e := from(s, st)
	if e != api.OK {
		return e
	}
	return cmp.Or(in.on(st.On), in.items(st.Items, st.Order), in.where(st.Where), in.order(st.Order))
}

// from tells the columns of a select's tables, one table's behind the other's.
func from(s api.Schema, st api.Stmt) (scope, api.Errno) {
	names := []string{st.Table}
	if st.Join != "" {
		names = append(names, st.Join)
	}
	in, e := over(s, names...)
	if e == api.OK && st.Join == st.Table && st.Join != "" {
		return nil, api.ErrName
	}
	return in, e
}

// over tells the columns of all tables of these names.
func over(s api.Schema, names ...string) (scope, api.Errno) {
	return fold(names, nil, func(in scope, name string) (scope, api.Errno) {
		t, ok := schema.Table(s, name)
		if !ok {
			return nil, api.ErrTable
		}
		return append(in, columns(t)...), api.OK
	})
}

// on tells why a join may not hold these columns against each other.
func (in scope) on(l []api.Expr) api.Errno {
	kinds, e := each(l, in.kind)
	if e == api.OK && !alike(kinds) {
		return api.ErrType
	}
	return e
}

// items tells why these may not be selected, in that order.
func (in scope) items(l []api.Item, order []api.Expr) api.Errno {
	if e := first(l, in.item); e != api.OK {
		return e
	}
	// What is folded comes to one row: it stands beside no other rows' values, and has no order.
	folded := len(such(l, isFolded))
	if folded > 0 && (folded < len(l) || len(order) > 0) {
		return api.ErrType
	}
	return api.OK
}

func isFolded(it api.Item) bool {
	return it.Agg != api.AggNone
}

func (in scope) item(it api.Item) api.Errno {
	switch it.Agg {
	case api.AggCount:
		if it.Name != "" {
			return api.ErrArg
		}
		return api.OK
	case api.AggNone, api.AggSum, api.AggMin, api.AggMax:
		kind, e := in.column(it.Table, it.Name)
		if e == api.OK && it.Agg == api.AggSum && kind == api.Text {
			return api.ErrType
		}
		return e
	}
	return api.ErrArg
}

func (in scope) where(l []api.Expr) api.Errno {
	return first(l, func(e api.Expr) api.Errno { return in.fits(e, api.Bool) })
}

func (in scope) order(l []api.Expr) api.Errno {
	_, e := each(l, in.kind)
	return e
}

func mayUpdate(s api.Schema, st api.Stmt) api.Errno {
	t, ok := schema.Table(s, st.Table)
	if !ok {
		return api.ErrTable
	}
	in := columns(t)
	kind, e := in.column("", st.Name)
	if e != api.OK {
		return e
	}
	if isKept(t, st.Name) {
		return api.ErrKey
	}
	return cmp.Or(in.fits(st.Values[0], kind), in.where(st.Where))
}

// isKept tells whether that column of t may not be set: the key, by which others refer to a row, and what a row refers to stay as they are.
func isKept(t api.Table, name string) bool {
	place := schema.Column(t, name)
	return place == 0 || t.Cols[place].Ref != ""
}

func mayDelete(s api.Schema, st api.Stmt) api.Errno {
	in, e := over(s, st.Table)
	if e != api.OK {
		return e
	}
	return in.where(st.Where)
}

func mayCall(s api.Schema, st api.Stmt) api.Errno {
	if _, ok := schema.View(s, st.Name); !ok {
		return api.ErrNone
	}
	return api.OK
}
