package eval

import "quarantine/api"

// scope is all columns that an expression may name, and their values, at the same places.
type scope struct {
	cols []api.Item
	vals []api.Value
}

// paired tells the columns that have a value; a value without a column says nothing.
func paired(cols []api.Item, vals []api.Value) scope {
	n := min(len(cols), len(vals))
	return scope{cols[:n], vals[:n]}
}

// column tells the value of the one column of that name, of that table, if one is named.
func (in scope) column(table, name string) (api.Value, api.Errno) {
	place, ok := only(in.cols, func(c api.Item) bool {
		return c.Name == name && (table == "" || c.Table == table)
	})
	if !ok {
		return api.Value{}, api.ErrColumn
	}
	return in.vals[place], api.OK
}

// comesTo tells what e comes to.
func (in scope) comesTo(e api.Expr) (api.Value, api.Errno) {
	// What is done below takes these Args as there.
	if len(e.Args) != parts(e.Op) {
		return api.Value{}, api.ErrArg
	}
	switch e.Op {
	case api.ExLit:
		return e.Value, api.OK
	case api.ExCol:
		return in.column(e.Table, e.Name)
	case api.ExAnd:
		return in.upTo(0, e.Args)
	case api.ExOr:
		return in.upTo(1, e.Args)
	}
	args, err := each(e.Args, in.comesTo)
	if err != api.OK {
		return api.Value{}, err
	}
	return made(e.Op, args)
}

// parts tells how many Args an expression of op has; -1: there is none of it.
func parts(op int) int {
	switch {
	case op == api.ExLit, op == api.ExCol:
		return 0
	case op == api.ExNeg, op == api.ExNot:
		return 1
	case api.ExAdd <= op && op <= api.ExOr:
		return 2
	}
	return -1
}

// upTo tells what the last of l comes to that is looked at: what stands behind one that comes to end is not.
func (in scope) upTo(end int64, l []api.Expr) (api.Value, api.Errno) {
	last, err := fold(l, 1-end, func(last int64, e api.Expr) (int64, api.Errno) {
		if last == end {
			return end, api.OK
		}
		v, err := in.comesTo(e)
		if err != api.OK {
			return 0, err
		}
		return intOf(v, api.Bool)
	})
	return truth(last == 1), err
}
