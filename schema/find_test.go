package schema_test

import (
	"slices"
	"testing"

	"quarantine/api"
	"quarantine/schema"
)

// town is a schema with tables and views of the same names, and of others.
func town(t *testing.T) api.Schema {
	t.Helper()
	return made(t,
		"create table t(k int, x text, y int)",
		"create table both(a text, k int, t int ref t)",
		"create table u(k int, r int ref t, b text)",
		"create table w(k text, b text ref both)",
		"create index on t(y)",
		"create index on u(r)",
		"create view both strip 1 as select * from t where k = 1",
		"create closure c strip 5, 1 as update t set y = y + 1",
		"create view u strip as select b from u order by b",
	)
}

// P9.2 Table

func TestTableByName(t *testing.T) {
	s := town(t)
	for name, want := range map[string]api.Table{
		"t":    {Name: "t", Cols: []api.Col{number("k"), letters("x"), number("y")}, Index: []string{"y"}},
		"both": {Name: "both", Cols: []api.Col{letters("a"), number("k"), ref("t", api.Int, "t")}},
		"u":    {Name: "u", Cols: []api.Col{number("k"), ref("r", api.Int, "t"), letters("b")}, Index: []string{"r"}},
		"w":    {Name: "w", Cols: []api.Col{letters("k"), ref("b", api.Text, "both")}},
	} {
		if got, is := schema.Table(s, name); !is || !same(got, want) {
			t.Errorf("Table(%q) is %v, %+v, not %+v", name, is, got, want)
		}
	}
	for _, name := range []string{"", "c", "k", "z", "T", "bot", "bothh"} {
		if got, is := schema.Table(s, name); is || !same(got, api.Table{}) {
			t.Errorf("Table(%q) is %v, %+v", name, is, got)
		}
	}
	if got, is := schema.Table(api.Schema{}, ""); is || !same(got, api.Table{}) {
		t.Errorf("Table of nothing is %v, %+v", is, got)
	}
}

// P9.2 View

func TestViewByName(t *testing.T) {
	s := town(t)
	for name, want := range map[string]api.View{
		"both": {Name: "both", Strip: api.Label{1}, Do: stmt(t, "select * from t where k = 1")},
		"c":    {Name: "c", Strip: api.Label{1, 5}, Do: stmt(t, "update t set y = y + 1")},
		"u":    {Name: "u", Do: stmt(t, "select b from u order by b")},
	} {
		if got, is := schema.View(s, name); !is || !same(got, want) {
			t.Errorf("View(%q) is %v, %+v, not %+v", name, is, got, want)
		}
	}
	for _, name := range []string{"", "t", "w", "k", "z", "C", "bot", "bothh"} {
		if got, is := schema.View(s, name); is || !same(got, api.View{}) {
			t.Errorf("View(%q) is %v, %+v", name, is, got)
		}
	}
	if got, is := schema.View(api.Schema{}, ""); is || !same(got, api.View{}) {
		t.Errorf("View of nothing is %v, %+v", is, got)
	}
}

// P9.2 Column

func TestColumnByName(t *testing.T) {
	for n := range api.MaxCols + 1 {
		x := api.Table{Name: "t", Cols: numbers(n), Index: []string{"i"}}
		for i := range api.MaxCols + 2 {
			want := i
			if i >= n {
				want = -1
			}
			if got := schema.Column(x, letter(i)); got != want {
				t.Errorf("Column(%q) of %d is %d, not %d", letter(i), n, got, want)
			}
		}
		for _, name := range []string{"", "t", "i", "x"} {
			if got := schema.Column(x, name); got != -1 {
				t.Errorf("Column(%q) is %d", name, got)
			}
		}
	}
}

// P9.2 Indexed

func TestIndexedByName(t *testing.T) {
	s := town(t)
	for name, columns := range map[string]map[string]bool{
		"t":    {"k": true, "x": false, "y": true, "z": false, "t": false, "": false},
		"both": {"a": true, "k": false, "t": false, "y": false, "": false},
		"u":    {"k": true, "r": true, "b": false, "y": false},
		"w":    {"k": true, "b": false, "a": false},
		"none": {"k": false, "": false},
	} {
		x, _ := schema.Table(s, name)
		for column, want := range columns {
			if got := schema.Indexed(x, column); got != want {
				t.Errorf("Indexed(%q, %q) is %v", name, column, got)
			}
		}
	}
	// Each of several indexes counts, and none counts for a column that is not there.
	x := api.Table{Cols: numbers(4), Index: []string{letter(3), "z", letter(1)}}
	for i, want := range []bool{true, true, false, true, false} {
		if got := schema.Indexed(x, letter(i)); got != want {
			t.Errorf("Indexed of place %d is %v", i, got)
		}
	}
	if schema.Indexed(x, "z") {
		t.Error("what is no column has an index")
	}
}

// P9.2 Refs

func TestRefsByName(t *testing.T) {
	s := town(t)
	for name, want := range map[string][]string{
		"t": {"both", "u"}, "both": {"w"}, "u": nil, "w": nil, "c": nil, "k": nil, "z": nil, "": nil,
	} {
		if got := schema.Refs(s, name); !slices.Equal(got, want) {
			t.Errorf("Refs(%q) is %q, not %q", name, got, want)
		}
	}
	if got := schema.Refs(api.Schema{}, "t"); len(got) != 0 {
		t.Errorf("Refs of nothing is %q", got)
	}
	// The chapter's own example.
	s = made(t, "create table t (k int)", "create table u (k int, r int ref t)")
	if got := schema.Refs(s, "t"); !slices.Equal(got, []string{"u"}) {
		t.Errorf("Refs is %q", got)
	}
}

// In order: as they came, not by their names, nor by the place of the column.
func TestRefsInOrder(t *testing.T) {
	names := []string{"m", "z", "a", "y", "b", "x", "c"}
	s := made(t, "create table t(k int)")
	for i, name := range names {
		cols := numbers(api.MaxCols - i%3)
		cols[len(cols)-1].Ref = "t"
		next, e := schema.Add(s, table(name, cols...), nil)
		if e != api.OK {
			t.Fatal(e)
		}
		s = next
		if got := schema.Refs(s, "t"); !slices.Equal(got, names[:i+1]) {
			t.Errorf("Refs is %q, not %q", got, names[:i+1])
		}
		if got := schema.Refs(s, name); len(got) != 0 {
			t.Errorf("Refs(%q) is %q", name, got)
		}
	}
}
