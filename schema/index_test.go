package schema_test

import (
	"slices"
	"testing"

	"quarantine/api"
)

// index is a create index.
func index(table, column string) api.Stmt {
	return api.Stmt{Kind: api.StIndex, Table: table, Name: column}
}

// indexed tells the columns with an index of each table of s.
func indexed(s api.Schema) [][]string {
	var l [][]string
	for _, t := range s.Tables {
		l = append(l, t.Index)
	}
	return l
}

// P9.1 StIndex: what is added

func TestIndexes(t *testing.T) {
	s := made(t, "create table t(k int, x text, y int)", "create table u(k int, x int, r int ref t)", "create view v strip 1 as select * from t")
	for _, x := range []struct {
		text string
		want [][]string
	}{
		{"create index on u(x)", [][]string{nil, {"x"}}},
		{"create index on t(y)", [][]string{{"y"}, {"x"}}},
		{"create index on t(x)", [][]string{{"y", "x"}, {"x"}}},
		{"create index on u(r)", [][]string{{"y", "x"}, {"x", "r"}}},
	} {
		next := more(t, s, x.text)
		if !same(indexed(next), x.want) {
			t.Errorf("%q: %q, not %q", x.text, indexed(next), x.want)
		}
		// All else is as it was.
		bare := api.Schema{Tables: slices.Clone(next.Tables), Views: next.Views}
		for i := range bare.Tables {
			bare.Tables[i].Index = s.Tables[i].Index
		}
		if !same(bare, s) {
			t.Errorf("%q made %+v of %+v", x.text, next, s)
		}
		s = next
	}
	for _, text := range []string{"create index on t(x)", "create index on t(y)", "create index on u(x)", "create index on u(r)"} {
		fails(t, s, stmt(t, text), owned, api.ErrName)
	}
}

// P9.1 StIndex: the errors

func TestIndexesThatMayNotBe(t *testing.T) {
	s := made(t, "create table t(k int, x text)", "create table u(k int, y int)", "create index on u(y)", "create view v strip as select * from t")
	failsText(t, s, map[string]api.Errno{
		"create index on z(k)": api.ErrTable,
		"create index on v(k)": api.ErrTable,
		"create index on k(k)": api.ErrTable,
		"create index on t(y)": api.ErrColumn,
		"create index on t(z)": api.ErrColumn,
		"create index on t(t)": api.ErrColumn,
		"create index on u(x)": api.ErrColumn,
		"create index on u(y)": api.ErrName,
	})
	fails(t, api.Schema{}, index("t", "k"), owned, api.ErrTable)
	fails(t, s, index("", ""), owned, api.ErrTable)
	fails(t, s, index("t", ""), owned, api.ErrColumn)
}

// No index is made of a first column, whatever else has one, or it has one itself.
func TestIndexesOfFirstColumns(t *testing.T) {
	s := made(t, "create table t(k int)", "create table u(k text, x int)", "create index on u(x)")
	fails(t, s, index("t", "k"), owned, api.ErrName)
	fails(t, s, index("u", "k"), owned, api.ErrName)
	for _, x := range s.Tables {
		if slices.Contains(x.Index, "k") {
			t.Errorf("a first column has an index of itself: %+v", x)
		}
	}
	s = api.Schema{Tables: []api.Table{{Name: "t", Cols: []api.Col{number("k"), number("x")}, Index: []string{"k"}}}}
	fails(t, s, index("t", "k"), owned, api.ErrName)
	adds(t, s, index("t", "x"), owned, api.Schema{Tables: []api.Table{{Name: "t", Cols: s.Tables[0].Cols, Index: []string{"k", "x"}}}})
}

// As many indexes as there are columns, in each order; full schemas take them, too.
func TestManyIndexes(t *testing.T) {
	full := doored(t, filled(t, made(t, "create table t(k int)"), api.MaxTables-1), api.MaxViews)
	full = more(t, full, "create table u(k int, a int, b text, c int, d text, e int)")
	d := dice(1)
	for range 50 {
		s, names := full, []string{"a", "b", "c", "d", "e"}
		for i := range names {
			j := i + d.next(len(names)-i)
			names[i], names[j] = names[j], names[i]
		}
		for _, name := range names {
			s = more(t, s, "create index on u("+name+")")
		}
		want := make([][]string, api.MaxTables)
		want[api.MaxTables-1] = names
		if !same(indexed(s), want) {
			t.Errorf("%q, not %q", indexed(s), want)
		}
	}
}

// What stands in fields that a create index does not have says nothing; nor does who owns what.
func TestIndexesWithOtherFields(t *testing.T) {
	s := made(t, "create table t(k int, x int)")
	st := index("t", "x")
	st.Cols, st.Tags, st.Inner, st.Join = make([]api.Col, 9), []uint16{9}, make([]api.Stmt, 2), "u"
	adds(t, s, st, nil, more(t, s, "create index on t(x)"))
}
