package schema

import (
	"slices"
	"strings"

	"quarantine/api"
	"quarantine/label"
	"quarantine/own"
)

func addTable(s api.Schema, st api.Stmt) (api.Schema, api.Errno) {
	if e := mayTable(s, st); e != api.OK {
		return api.Schema{}, e
	}
	t := api.Table{Name: st.Name, Cols: st.Cols}
	return api.Schema{Tables: tables(s).with(t), Views: copies(s.Views, copyView)}, api.OK
}

// mayTable tells the first reason why st makes no table of s.
func mayTable(s api.Schema, st api.Stmt) api.Errno {
	switch {
	case tables(s).has(st.Name):
		return api.ErrName
	case len(s.Tables) >= api.MaxTables:
		return api.ErrFull
	case len(st.Cols) == 0 || len(st.Cols) > api.MaxCols:
		return api.ErrLong
	}
	for i, c := range st.Cols {
		if e := mayColumn(s, st.Cols[:i], c); e != api.OK {
			return e
		}
	}
	return api.OK
}

// mayColumn tells the first reason why c may not stand behind those columns in a new table of s.
func mayColumn(s api.Schema, ahead []api.Col, c api.Col) api.Errno {
	switch {
	case columns(ahead).has(c.Name):
		return api.ErrName
	case c.Kind != api.Int && c.Kind != api.Text:
		return api.ErrType
	case hasRef(c):
		return mayRef(s, ahead, c)
	}
	return api.OK
}

func mayRef(s api.Schema, ahead []api.Col, c api.Col) api.Errno {
	if len(ahead) == 0 || slices.ContainsFunc(ahead, hasRef) {
		return api.ErrForeign
	}
	to := tables(s).place(c.Ref)
	if to < 0 {
		return api.ErrTable
	}
	// A table that Add did not make may have no columns at all.
	if cols := s.Tables[to].Cols; len(cols) == 0 || cols[0].Kind != c.Kind {
		return api.ErrType
	}
	return api.OK
}

func hasRef(c api.Col) bool {
	return c.Ref != ""
}

func addIndex(s api.Schema, st api.Stmt) (api.Schema, api.Errno) {
	at := tables(s).place(st.Table)
	if at < 0 {
		return api.Schema{}, api.ErrTable
	}
	if Column(s.Tables[at], st.Name) < 0 {
		return api.Schema{}, api.ErrColumn
	}
	// The key is found without an index, and is never given one.
	if Indexed(s.Tables[at], st.Name) {
		return api.Schema{}, api.ErrName
	}
	next := copySchema(s)
	next.Tables[at].Index = append(next.Tables[at].Index, strings.Clone(st.Name))
	return next, api.OK
}

// addDoor adds a view or a closure, which differ in the statements that they may have.
func addDoor(s api.Schema, st api.Stmt, owns api.Label) (api.Schema, api.Errno) {
	if e := mayDoor(s, st, owns); e != api.OK {
		return api.Schema{}, e
	}
	// own.May has found no fault in these tags, so Norm finds none.
	strip, _ := label.Norm(st.Tags)
	v := api.View{Name: st.Name, Strip: strip, Do: st.Inner[0]}
	return api.Schema{Tables: copies(s.Tables, copyTable), Views: views(s).with(v)}, api.OK
}

// mayDoor tells the first reason why who owns these tags makes no door of st.
func mayDoor(s api.Schema, st api.Stmt, owns api.Label) api.Errno {
	switch {
	case views(s).has(st.Name):
		return api.ErrName
	case len(s.Views) >= api.MaxViews:
		return api.ErrFull
	}
	if e := own.May(owns, st.Tags); e != api.OK {
		return e
	}
	if len(st.Inner) != 1 || !mayStandIn(st.Kind, st.Inner[0].Kind) {
		return api.ErrArg
	}
	return api.OK
}

// mayStandIn tells whether the grammar lets a door of one kind have a statement of the other.
func mayStandIn(door, inner int) bool {
	if door == api.StView {
		return inner == api.StSelect
	}
	return inner == api.StInsert || inner == api.StUpdate || inner == api.StDelete
}
