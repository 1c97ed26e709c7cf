package rel

import (
	"slices"

	"quarantine/api"
)

// scope is all columns that a select may name, each with its table's name, and its own.
type scope []api.Item

// columns tells those of all these tables.
func columns(tables ...api.Table) scope {
	var in scope
	for _, t := range tables {
		for _, c := range t.Cols {
			in = append(in, api.Item{Table: t.Name, Name: c.Name})
		}
	}
	return in
}

// place tells where the one column of that name stands, of that table, if one is named.
func (in scope) place(table, name string) (int, api.Errno) {
	is := func(c api.Item) bool { return c.Name == name && (table == "" || c.Table == table) }
	i := slices.IndexFunc(in, is)
	if i < 0 || slices.ContainsFunc(in[i+1:], is) {
		return 0, api.ErrColumn
	}
	return i, api.OK
}

// named tells where the column stands that e is. ErrArg: it is none.
func (in scope) named(e api.Expr) (int, api.Errno) {
	if e.Op != api.ExCol || len(e.Args) != 0 {
		return 0, api.ErrArg
	}
	return in.place(e.Table, e.Name)
}
