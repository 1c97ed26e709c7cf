package schema_test

import (
	"math"
	"slices"
	"strings"
	"testing"

	"quarantine/api"
	"quarantine/schema"
)

// Names that are empty, or that no text has, are names like others.
func TestNamesThatNoTextHas(t *testing.T) {
	var bytes []byte
	for b := range 256 {
		bytes = append(bytes, byte(b))
	}
	for _, name := range []string{"", " ", "select", "\x00", "\xff", string(bytes), strings.Repeat("n", 1<<16)} {
		s, e := schema.Add(api.Schema{}, table(name, number(name), number(name+"x")), nil)
		if e != api.OK {
			t.Fatalf("a table %q: %d", name, e)
		}
		fails(t, s, table(name, number("k")), nil, api.ErrName)
		fails(t, s, table("a", number(name), number(name)), nil, api.ErrName)
		fails(t, s, index(name, name), nil, api.ErrName)
		s, e = schema.Add(s, index(name, name+"x"), nil)
		if e != api.OK {
			t.Fatalf("an index of %q: %d", name, e)
		}
		s, e = schema.Add(s, door(api.StClosure, name, api.Stmt{Kind: api.StInsert}), nil)
		if e != api.OK {
			t.Fatalf("a closure %q: %d", name, e)
		}
		x, is := schema.Table(s, name)
		if !is || schema.Column(x, name) != 0 || schema.Column(x, name+"x") != 1 || !schema.Indexed(x, name+"x") {
			t.Errorf("of %q: %+v", name, x)
		}
		if v, is := schema.View(s, name); !is || v.Name != name {
			t.Errorf("of %q: %+v", name, v)
		}
	}
}

// A column's empty Ref is none, also where a table has an empty name.
func TestAnEmptyRefIsNone(t *testing.T) {
	s := api.Schema{Tables: []api.Table{{Cols: []api.Col{number("k")}}}}
	adds(t, s, table("a", letters("k"), letters("b")), nil, api.Schema{Tables: []api.Table{s.Tables[0], {Name: "a", Cols: []api.Col{letters("k"), letters("b")}}}})
	s, _ = schema.Add(s, table("a", letters("k"), letters("b")), nil)
	if got := schema.Refs(s, ""); len(got) != 0 {
		t.Errorf("Refs of an empty name is %q", got)
	}
}

// Of things that stand twice the first is found.
func TestNamesThatStandTwice(t *testing.T) {
	s := api.Schema{
		Tables: []api.Table{
			{Name: "t", Cols: []api.Col{number("k"), number("x"), letters("x")}},
			{Name: "t", Cols: []api.Col{letters("k"), ref("r", api.Int, "t"), ref("q", api.Int, "t")}, Index: []string{"r", "r"}},
		},
		Views: []api.View{{Name: "v", Strip: api.Label{1}}, {Name: "v", Strip: api.Label{2}}},
	}
	if x, _ := schema.Table(s, "t"); !same(x, s.Tables[0]) || schema.Column(x, "x") != 1 {
		t.Errorf("a table: %+v", x)
	}
	if v, _ := schema.View(s, "v"); !same(v, s.Views[0]) {
		t.Errorf("a view: %+v", v)
	}
	if got := schema.Refs(s, "t"); !slices.Equal(got, []string{"t"}) {
		t.Errorf("Refs: %q", got)
	}
	fails(t, s, table("t", number("k")), nil, api.ErrName)
	fails(t, s, index("t", "r"), nil, api.ErrColumn)
	fails(t, s, table("a", number("k"), ref("r", api.Text, "t")), nil, api.ErrType)
	want := api.Schema{Tables: slices.Clone(s.Tables), Views: s.Views}
	want.Tables[0].Index = []string{"x"}
	adds(t, s, index("t", "x"), nil, want)
	want = api.Schema{Tables: append(slices.Clone(s.Tables), api.Table{Name: "a", Cols: []api.Col{number("k"), ref("r", api.Int, "t")}}), Views: s.Views}
	adds(t, s, table("a", number("k"), ref("r", api.Int, "t")), nil, want)
}

// A table without columns has no kind that a Ref could fit, and none that is first.
func TestTablesWithoutColumns(t *testing.T) {
	s := api.Schema{Tables: []api.Table{{Name: "t", Index: []string{"k"}}}}
	for _, kind := range []int{api.Int, api.Text} {
		fails(t, s, table("a", number("k"), ref("r", kind, "t")), nil, api.ErrType)
	}
	fails(t, s, index("t", "k"), nil, api.ErrColumn)
	fails(t, s, index("t", ""), nil, api.ErrColumn)
	if x, is := schema.Table(s, "t"); !is || schema.Column(x, "k") != -1 || schema.Indexed(x, "k") || schema.Indexed(x, "") {
		t.Errorf("a table without columns: %+v", x)
	}
	// One whose first column is of no kind fits none either.
	s.Tables[0].Cols = []api.Col{{Name: "k", Kind: api.Bool}}
	fails(t, s, table("a", number("k"), ref("r", api.Int, "t")), nil, api.ErrType)
	fails(t, s, table("a", number("k"), ref("r", api.Bool, "t")), nil, api.ErrType)
}

// Limits: a door's statement may be nested as deep as is promised.
func TestDeepDoors(t *testing.T) {
	const deep = 1 << 16
	x := api.Expr{Op: api.ExCol, Name: "a"}
	for range deep {
		x = api.Expr{Op: api.ExNot, Args: []api.Expr{x}}
	}
	st := api.Stmt{Kind: api.StSelect}
	for range deep {
		st = api.Stmt{Kind: api.StDelete, Inner: []api.Stmt{st}}
	}
	for kind, inner := range map[int]api.Stmt{api.StView: {Kind: api.StSelect, Where: []api.Expr{x}}, api.StClosure: st} {
		s, e := schema.Add(api.Schema{}, door(kind, "v", inner), nil)
		if e != api.OK {
			t.Fatal(e)
		}
		v, _ := schema.View(s, "v")
		levels := 0
		for inner = v.Do; len(inner.Inner) > 0; inner = inner.Inner[0] {
			levels++
		}
		for l := inner.Where; len(l) > 0 && len(l[0].Args) > 0; l = l[0].Args {
			levels++
		}
		if levels != deep {
			t.Errorf("%d levels of %d", levels, deep)
		}
	}
}

func strangeExprs(d *dice, deep int) []api.Expr {
	var l []api.Expr
	for range d.next(3) * min(deep, 1) {
		l = append(l, api.Expr{Op: d.next(20) - 2, Value: api.Value{Kind: d.next(5), Int: int64(d.next(3)), Text: pick(d, "", "a")}, Table: pick(d, "", "t"), Name: pick(d, "", "k"), Args: strangeExprs(d, deep-1)})
	}
	return l
}

func strangeCols(d *dice) []api.Col {
	var l []api.Col
	for range d.next(8) {
		l = append(l, api.Col{Name: pick(d, "", "k", "x", "y", "z"), Kind: d.next(5) - 1, Ref: pick(d, "", "", "", "t", "u", "z")})
	}
	return l
}

// strangeStmt tells a statement of any form.
func strangeStmt(d *dice, deep int) api.Stmt {
	st := api.Stmt{
		Kind: pick(d, api.StTable, api.StIndex, api.StView, api.StClosure, d.next(17)-2, math.MinInt, math.MaxInt), Table: pick(d, "", "t", "u", "z"), Name: pick(d, "", "t", "v", "k", "z"), Join: pick(d, "", "u"), Desc: d.next(2) == 0,
		Cols: strangeCols(d), Values: strangeExprs(d, 3), On: strangeExprs(d, 3), Where: strangeExprs(d, 3), Order: strangeExprs(d, 3),
	}
	for range d.next(11) {
		st.Tags = append(st.Tags, uint16(d.next(12)))
	}
	for range d.next(3) {
		st.Items = append(st.Items, api.Item{Agg: d.next(8) - 2, Table: pick(d, "", "t"), Name: pick(d, "", "k")})
	}
	for range d.next(3) * min(deep, 1) {
		st.Inner = append(st.Inner, strangeStmt(d, deep-1))
	}
	return st
}

// strangeSchema tells a schema of any form.
func strangeSchema(d *dice) api.Schema {
	var s api.Schema
	for range d.next(api.MaxTables + 3) {
		x := api.Table{Name: pick(d, "", "t", "u", "w"), Cols: strangeCols(d)}
		for range d.next(4) {
			x.Index = append(x.Index, pick(d, "", "k", "x", "z"))
		}
		s.Tables = append(s.Tables, x)
	}
	for range d.next(api.MaxViews + 3) {
		s.Views = append(s.Views, api.View{Name: pick(d, "", "t", "v"), Strip: strangeStmt(d, 0).Tags, Do: strangeStmt(d, 1)})
	}
	return s
}

// R1: none panics, whatever is handed in; and what is told is what the sentences say of it

func TestWhateverIsHandedIn(t *testing.T) {
	d := dice(3)
	for range 5000 {
		s, st, owns := strangeSchema(&d), strangeStmt(&d, 2), api.Label(strangeStmt(&d, 0).Tags)
		want, e := plainly(s, st, owns)
		if e != api.OK {
			fails(t, s, st, owns, e)
		} else {
			adds(t, s, st, owns, want)
		}
		for _, name := range []string{"", "t", "u", "v", "k", "z"} {
			x, is := schema.Table(s, name)
			if at := slices.Index(tableNames(s), name); is != (at >= 0) || is && !same(x, s.Tables[at]) {
				t.Fatalf("Table(%q) is %v, %+v of %+v", name, is, x, s)
			}
			v, is := schema.View(s, name)
			if at := slices.Index(viewNames(s), name); is != (at >= 0) || is && !same(v, s.Views[at]) {
				t.Fatalf("View(%q) is %v, %+v of %+v", name, is, v, s)
			}
			var refs []string
			for _, y := range s.Tables {
				if name != "" && slices.ContainsFunc(y.Cols, func(c api.Col) bool { return c.Ref == name }) {
					refs = append(refs, y.Name)
				}
				at := slices.Index(columnNames(y), name)
				if got := schema.Column(y, name); got != at {
					t.Fatalf("Column(%q) is %d of %+v", name, got, y)
				}
				if got := schema.Indexed(y, name); got != (at == 0 || at > 0 && slices.Contains(y.Index, name)) {
					t.Fatalf("Indexed(%q) is %v of %+v", name, got, y)
				}
			}
			if got := schema.Refs(s, name); !slices.Equal(got, refs) {
				t.Fatalf("Refs(%q) is %q, not %q", name, got, refs)
			}
		}
	}
}
