package schema_test

import (
	"math"
	"slices"
	"testing"

	"quarantine/api"
	"quarantine/schema"
)

// P9.1: a statement that is no create

func TestOtherKinds(t *testing.T) {
	query := api.Stmt{Kind: api.StSelect, Table: "t"}
	full := doored(t, filled(t, made(t, "create table t(k int)"), api.MaxTables), api.MaxViews)
	for _, kind := range []int{
		api.StInsert, api.StSelect, api.StUpdate, api.StDelete, api.StBegin, api.StCommit, api.StRollback, api.StRaise, api.StCall,
		math.MinInt, -1, 0, api.StCall + 1, api.StCall + 2, math.MaxInt,
	} {
		for _, st := range []api.Stmt{
			{},
			table("a", number("k")),
			table("t"),
			{Table: "t", Name: "k"},
			door(0, "a", query),
			{Name: "xa", Tags: []uint16{9}},
		} {
			st.Kind = kind
			fails(t, api.Schema{}, st, owned, api.ErrArg)
			fails(t, full, st, nil, api.ErrArg)
		}
	}
	failsText(t, full, map[string]api.Errno{
		"insert into t values(1)": api.ErrArg, "select * from t": api.ErrArg, "update t set k = 1": api.ErrArg, "delete from t": api.ErrArg,
		"begin": api.ErrArg, "commit": api.ErrArg, "rollback": api.ErrArg, "raise 1": api.ErrArg, "call xa": api.ErrArg,
	})
}

// P9.1 StTable: what is added

func TestTables(t *testing.T) {
	s := made(t, "create table t(k int)")
	if !same(s, api.Schema{Tables: []api.Table{{Name: "t", Cols: []api.Col{number("k")}}}}) {
		t.Errorf("one table: %+v", s)
	}
	s = made(t, "create table t(k int, x text)", "create table u(k text, r int ref t, y int)", "create table a(b text, c text ref u)")
	want := api.Schema{Tables: []api.Table{
		{Name: "t", Cols: []api.Col{number("k"), letters("x")}},
		{Name: "u", Cols: []api.Col{letters("k"), ref("r", api.Int, "t"), number("y")}},
		{Name: "a", Cols: []api.Col{letters("b"), ref("c", api.Text, "u")}},
	}}
	if !same(s, want) {
		t.Errorf("three tables: %+v, not %+v", s, want)
	}
}

// What stands in fields that a create table does not have says nothing; nor does who owns what.
func TestTablesWithOtherFields(t *testing.T) {
	st := table("t", number("k"))
	st.Table, st.Join, st.Desc, st.Tags = "u", "u", true, []uint16{9, 8, 7, 6, 5, 4, 3, 2, 1}
	st.Items, st.Inner = []api.Item{{Agg: 9}}, []api.Stmt{{}, {}}
	st.Values, st.On, st.Where, st.Order = make([]api.Expr, 3), make([]api.Expr, 3), make([]api.Expr, 3), make([]api.Expr, 3)
	want := made(t, "create table t(k int)")
	for _, owns := range []api.Label{nil, {}, owned, {9, 1, 9}, slices.Repeat(api.Label{3}, 20)} {
		adds(t, api.Schema{}, st, owns, want)
	}
}

func TestTablesNameByName(t *testing.T) {
	s := made(t, "create table t(k int)", "create table u(k int)", "create view v strip as select * from t")
	failsText(t, s, map[string]api.Errno{"create table t(k int)": api.ErrName, "create table u(k int)": api.ErrName, "create table t(a text, b int)": api.ErrName})
	// A view's name, a column's, a piece of a table's and a longer one are free.
	for _, name := range []string{"v", "k", "tt", "tu", "_t"} {
		next := more(t, s, "create table "+name+"(k int)")
		if !slices.Equal(tableNames(next), []string{"t", "u", name}) || !slices.Equal(viewNames(next), []string{"v"}) {
			t.Errorf("behind %q: %+v", name, next)
		}
	}
}

// P9.1 StTable: how many tables

func TestManyTables(t *testing.T) {
	var s api.Schema
	var names []string
	for n := range api.MaxTables {
		s = more(t, s, "create table "+letter(n)+"(k int, "+letter(n)+" text)")
		names = append(names, letter(n))
		if !slices.Equal(tableNames(s), names) {
			t.Fatalf("%v, not %v", tableNames(s), names)
		}
		for i, x := range s.Tables {
			if !same(x, api.Table{Name: letter(i), Cols: []api.Col{number("k"), letters(letter(i))}}) {
				t.Fatalf("among %d tables: %+v", n+1, x)
			}
		}
	}
	fails(t, s, table("a", number("k")), owned, api.ErrFull)
	s.Tables = append(slices.Clone(s.Tables), api.Table{Name: "more", Cols: []api.Col{number("k")}})
	fails(t, s, table("a", number("k")), owned, api.ErrFull)
	// Views do not count as tables.
	s = doored(t, made(t, "create table t(k int)"), api.MaxViews)
	s = filled(t, s, api.MaxTables)
	if len(s.Tables) != api.MaxTables || len(s.Views) != api.MaxViews {
		t.Errorf("%d tables, %d views", len(s.Tables), len(s.Views))
	}
}

// P9.1 StTable: how many columns

func TestManyColumns(t *testing.T) {
	s := made(t, "create table t(k int)")
	for n := range api.MaxCols + 1 {
		if n == 0 {
			fails(t, s, table("a"), owned, api.ErrLong)
			fails(t, s, api.Stmt{Kind: api.StTable, Name: "a", Cols: []api.Col{}}, owned, api.ErrLong)
			continue
		}
		adds(t, s, table("a", numbers(n)...), owned, api.Schema{Tables: append(slices.Clone(s.Tables), api.Table{Name: "a", Cols: numbers(n)})})
	}
	for _, n := range []int{api.MaxCols + 1, api.MaxCols + 2, 20} {
		fails(t, s, table("a", numbers(n)...), owned, api.ErrLong)
	}
	fails(t, s, table("a", slices.Repeat(numbers(1), 1<<20)...), owned, api.ErrLong)
}

// P9.1 StTable: names and kinds of columns

func TestColumnsNameByName(t *testing.T) {
	for n := 2; n <= api.MaxCols; n++ {
		for j := range n {
			for i := range j {
				twice := changed(numbers(n), func(l []api.Col) { l[j].Name = l[i].Name })
				fails(t, api.Schema{}, table("a", twice...), owned, api.ErrName)
				fails(t, api.Schema{}, table("a", changed(twice, func(l []api.Col) { l[j].Kind = api.Text })...), owned, api.ErrName)
			}
		}
	}
	// A column may have the name of its table, of another one and of another one's column.
	s := made(t, "create table t(k int)", "create view v strip as select * from t")
	more(t, s, "create table a(a int, t int, k int, v int)")
}

func TestColumnsKindByKind(t *testing.T) {
	for _, kind := range []int{math.MinInt, -1, 0, api.Bool, 4, math.MaxInt} {
		for n := 1; n <= api.MaxCols; n++ {
			for i := range n {
				fails(t, api.Schema{}, table("a", changed(numbers(n), func(l []api.Col) { l[i].Kind = kind })...), owned, api.ErrType)
			}
		}
	}
	// All that are of either kind are fine.
	for kinds := range 1 << api.MaxCols {
		cols := numbers(api.MaxCols)
		for i := range cols {
			cols[i].Kind = api.Int + kinds>>i&1
		}
		adds(t, api.Schema{}, table("a", cols...), owned, api.Schema{Tables: []api.Table{{Name: "a", Cols: cols}}})
	}
}

// P9.1 StTable: columns with a Ref

func TestRefsOfNewTables(t *testing.T) {
	s := made(t, "create table t(k int, x text)", "create table u(k text, r int ref t)", "create view v strip as select * from t")
	failsText(t, s, map[string]api.Errno{
		"create table a(k int ref t)":                                api.ErrForeign,
		"create table a(k int ref t, b int)":                         api.ErrForeign,
		"create table a(k int, b int ref t, c int ref t)":            api.ErrForeign,
		"create table a(k int, b int ref t, c text ref u)":           api.ErrForeign,
		"create table a(k int, b int ref t, c int, d int ref t)":     api.ErrForeign,
		"create table a(k int, b int ref a)":                         api.ErrTable,
		"create table a(k int, b int ref z)":                         api.ErrTable,
		"create table a(k int, b int ref v)":                         api.ErrTable,
		"create table a(k int, b int ref k)":                         api.ErrTable,
		"create table a(k int, b text ref t)":                        api.ErrType,
		"create table a(k int, b int ref u)":                         api.ErrType,
		"create table a(k text, b text ref t)":                       api.ErrType,
		"create table a(k int, x text, y text, z text, b int ref u)": api.ErrType,
	})
	for text, cols := range map[string][]api.Col{
		"create table a(k int, b int ref t)":                              {number("k"), ref("b", api.Int, "t")},
		"create table a(k int, b text ref u)":                             {number("k"), ref("b", api.Text, "u")},
		"create table a(k text, b int ref t)":                             {letters("k"), ref("b", api.Int, "t")},
		"create table a(k int, t int ref t)":                              {number("k"), ref("t", api.Int, "t")},
		"create table a(k int, c text, b int ref t, d text)":              {number("k"), letters("c"), ref("b", api.Int, "t"), letters("d")},
		"create table a(c int, d int, e int, f int, g int, b text ref u)": {number("c"), number("d"), number("e"), number("f"), number("g"), ref("b", api.Text, "u")},
	} {
		adds(t, s, stmt(t, text), nil, api.Schema{Tables: append(slices.Clone(s.Tables), api.Table{Name: "a", Cols: cols}), Views: s.Views})
	}
}

// A Ref may go to any table ahead, and what it must fit is the first column there, not another one.
func TestRefsToEachTable(t *testing.T) {
	var s api.Schema
	for n := range api.MaxTables {
		for to := range n + 1 {
			for _, kind := range []int{api.Int, api.Text} {
				want := api.OK
				if to == n {
					want = api.ErrTable
				} else if kind != api.Int+to%2 {
					want = api.ErrType
				}
				st := table(letter(n), letters("k"), ref("r", kind, letter(to)))
				if _, e := schema.Add(s, st, nil); e != want {
					t.Errorf("table %d refers to table %d by kind %d: %d, not %d", n, to, kind, e, want)
				}
			}
		}
		next, e := schema.Add(s, table(letter(n), api.Col{Name: "k", Kind: api.Int + n%2}, api.Col{Name: "x", Kind: api.Text - n%2}), nil)
		if e != api.OK {
			t.Fatalf("table %d: %d", n, e)
		}
		s = next
	}
}

// P9.1 StTable, R2: of several errors the first that is named

func TestWhichErrorOfATable(t *testing.T) {
	s := made(t, "create table t(k int)", "create table u(k text)")
	full := filled(t, s, api.MaxTables)
	bad, long := api.Col{Name: "k", Kind: 9, Ref: "z"}, numbers(api.MaxCols+1)
	broken := func(name string) []api.Stmt {
		return []api.Stmt{
			table(name), table(name, long...), table(name, bad), table(name, number("k"), number("k")),
			table(name, number("k"), ref("r", api.Int, "z")), table(name, number("k"), ref("r", api.Int, "u")),
		}
	}
	for _, st := range broken("t") {
		fails(t, s, st, owned, api.ErrName)
		fails(t, full, st, owned, api.ErrName)
	}
	fails(t, full, table("t", number("k")), owned, api.ErrName)
	for _, st := range broken("a") {
		fails(t, full, st, owned, api.ErrFull)
	}
	// Too many columns, which are wrong besides.
	fails(t, s, table("a", changed(long, func(l []api.Col) { l[1].Name = l[0].Name })...), owned, api.ErrLong)
	fails(t, s, table("a", changed(long, func(l []api.Col) { l[0].Kind = 0 })...), owned, api.ErrLong)
	fails(t, s, table("a", changed(long, func(l []api.Col) { l[0].Ref = "t" })...), owned, api.ErrLong)
}

func TestWhichErrorOfAColumn(t *testing.T) {
	s := made(t, "create table t(k int)", "create table u(k text)")
	for _, x := range []struct {
		cols []api.Col
		want api.Errno
	}{
		// Two at one column, each with the next one that is named.
		{[]api.Col{number("k"), {Name: "k", Kind: 9}}, api.ErrName},
		{[]api.Col{number("k"), ref("k", api.Int, "z")}, api.ErrName},
		{[]api.Col{number("k"), ref("k", api.Int, "u")}, api.ErrName},
		{[]api.Col{number("k"), ref("r", api.Int, "t"), ref("r", api.Int, "t")}, api.ErrName},
		{[]api.Col{ref("k", 9, "t")}, api.ErrType},
		{[]api.Col{ref("k", 9, "z")}, api.ErrType},
		{[]api.Col{number("k"), ref("r", 9, "z")}, api.ErrType},
		{[]api.Col{number("k"), ref("r", api.Int, "t"), ref("q", 0, "t")}, api.ErrType},
		{[]api.Col{ref("k", api.Int, "z")}, api.ErrForeign},
		{[]api.Col{ref("k", api.Int, "u")}, api.ErrForeign},
		{[]api.Col{number("k"), ref("r", api.Int, "t"), ref("q", api.Int, "z")}, api.ErrForeign},
		{[]api.Col{number("k"), ref("r", api.Int, "t"), ref("q", api.Int, "u")}, api.ErrForeign},
		// Two at two columns: the column that stands ahead.
		{[]api.Col{{Name: "k"}, number("k")}, api.ErrType},
		{[]api.Col{ref("k", api.Int, "t"), number("k")}, api.ErrForeign},
		{[]api.Col{ref("k", api.Int, "t"), {Name: "x"}}, api.ErrForeign},
		{[]api.Col{number("k"), ref("r", api.Int, "z"), number("k")}, api.ErrTable},
		{[]api.Col{number("k"), ref("r", api.Int, "z"), {Name: "x"}}, api.ErrTable},
		{[]api.Col{number("k"), ref("r", api.Int, "z"), ref("q", api.Int, "t")}, api.ErrTable},
		{[]api.Col{number("k"), ref("r", api.Int, "u"), number("k")}, api.ErrType},
		{[]api.Col{number("k"), ref("r", api.Int, "u"), ref("q", api.Int, "t")}, api.ErrType},
		{[]api.Col{number("k"), ref("r", api.Int, "u"), ref("q", api.Int, "z")}, api.ErrType},
		{[]api.Col{number("k"), ref("r", api.Int, "t"), ref("q", api.Int, "t"), number("k")}, api.ErrForeign},
		{[]api.Col{number("k"), number("k"), {Name: "x"}}, api.ErrName},
		{[]api.Col{number("k"), number("k"), ref("r", api.Int, "z")}, api.ErrName},
		{[]api.Col{number("k"), number("x"), {Name: "y"}, number("k")}, api.ErrType},
	} {
		fails(t, s, table("a", x.cols...), owned, x.want)
	}
}
