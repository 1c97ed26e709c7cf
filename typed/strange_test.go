package typed_test

import (
	"math"
	"slices"
	"strings"
	"testing"

	"quarantine/api"
	"quarantine/typed"
)

// strangeExprs tells expressions of any form.
func strangeExprs(d *dice, deep int) []api.Expr {
	var l []api.Expr
	for range d.next(4) * min(deep, 1) {
		x := api.Expr{
			Op:    pick(d, api.ExLit, api.ExLit, api.ExCol, api.ExCol, d.next(20)-2, d.next(20)-2, math.MinInt, math.MaxInt),
			Value: api.Value{Kind: d.next(5), Int: int64(d.next(3)), Text: pick(d, "", "a", "\xff")},
			Table: pick(d, "", "", "t", "u", "z"), Name: pick(d, "", "k", "x", "y"),
		}
		if x.Op > api.ExCol || d.next(10) == 0 {
			x.Args = strangeExprs(d, deep-1)
		}
		l = append(l, x)
	}
	return l
}

// strangeStmt tells a statement of any form, though often of one that is looked at far.
func strangeStmt(d *dice, deep int) api.Stmt {
	st := api.Stmt{
		Kind: pick(d, api.StInsert, api.StSelect, api.StSelect, api.StUpdate, api.StDelete, d.next(17)-2, math.MinInt, math.MaxInt), Desc: d.next(2) == 0,
		Table: pick(d, "", "t", "t", "u", "z"), Name: pick(d, "", "k", "x", "y", "v", "z"), Join: pick(d, "", "", "u", "u", "t", "z"),
		Values: strangeExprs(d, 4), On: strangeExprs(d, 2), Where: strangeExprs(d, 4), Order: strangeExprs(d, 2),
	}
	if d.next(2) == 0 {
		st.Where, st.Order = st.Where[:min(len(st.Where), 1)], st.Order[:min(len(st.Order), 1)]
	}
	if d.next(2) == 0 {
		st.On = nil
		for range 2 * min(len(st.Join), 1) {
			st.On = append(st.On, columnOf(pick(d, "", "t", "u"), pick(d, "", "k", "x", "y")))
		}
	}
	for range d.next(4) {
		st.Items = append(st.Items, api.Item{Agg: pick(d, 0, d.next(8)-2), Table: pick(d, "", "t", "u"), Name: pick(d, "", "k", "x")})
		st.Tags = append(st.Tags, uint16(d.next(12)))
		st.Cols = append(st.Cols, api.Col{Name: pick(d, "", "k"), Kind: d.next(4), Ref: pick(d, "", "t")})
	}
	for range pick(d, 0, 1, 1, 1, 2) * min(deep, 1) {
		st.Inner = append(st.Inner, strangeStmt(d, deep-1))
	}
	return st
}

// strangeSchema tells a schema of any form.
func strangeSchema(d *dice) api.Schema {
	var s api.Schema
	for range d.next(api.MaxTables + 3) {
		x := api.Table{Name: pick(d, "", "t", "u", "w")}
		for range d.next(api.MaxCols) {
			x.Cols = append(x.Cols, api.Col{Name: pick(d, "", "k", "x", "y", "z"), Kind: d.next(5) - 1, Ref: pick(d, "", "", "", "t", "z")})
		}
		for range d.next(3) {
			x.Index = append(x.Index, pick(d, "", "k", "z"))
		}
		s.Tables = append(s.Tables, x)
	}
	for range d.next(api.MaxViews + 3) {
		s.Views = append(s.Views, api.View{Name: pick(d, "", "t", "v"), Strip: api.Label{uint16(d.next(9))}, Do: strangeStmt(d, 1)})
	}
	return s
}

// R1, R2: none panics, whatever is handed in; and what is told is what the sentences say of it, with 0 beside an error

func TestWhateverIsHandedIn(t *testing.T) {
	d := dice(3)
	for range 20000 {
		s, st := strangeSchema(&d), strangeStmt(&d, 3)
		checks(t, s, st, firstOf(why(s, st)))
		var cols []api.Item
		var kinds []int
		for range d.next(6) {
			cols = append(cols, api.Item{Agg: d.next(7) - 1, Table: pick(&d, "", "t", "u"), Name: pick(&d, "", "k", "x", "y")})
		}
		for range d.next(6) {
			kinds = append(kinds, d.next(6)-1)
		}
		for _, e := range slices.Concat(st.Values, st.Where, st.On, st.Order) {
			want, err := plainly(cols, kinds, e)
			if got, e2 := typed.Kind(cols, kinds, e); got != want || e2 != err {
				t.Errorf("Kind of %+v over %+v, %v is %d, %d, not %d, %d", e, cols, kinds, got, e2, want, err)
			}
		}
		if t.Failed() {
			return
		}
	}
}

// Of schemas that no create makes: a table that stands twice is the first, and a column that stands twice is one of two.
func TestNamesThatStandTwice(t *testing.T) {
	col := func(name string, kind int) api.Col { return api.Col{Name: name, Kind: kind} }
	s := api.Schema{Tables: []api.Table{
		{Name: "t", Cols: []api.Col{col("k", api.Int), col("x", api.Int), col("x", api.Int), col("y", api.Text)}},
		{Name: "t", Cols: []api.Col{col("k", api.Text), col("y", api.Int), col("z", api.Int)}},
	}}
	checksText(t, s, map[string]api.Errno{
		"select * from t":                     api.OK,
		"select y from t where y = 'a'":       api.OK,
		"select y from t where y = 1":         api.ErrType,
		"select z from t":                     api.ErrColumn,
		"select x from t":                     api.ErrColumn,
		"select t.x from t":                   api.ErrColumn,
		"select * from t order by x":          api.ErrColumn,
		"select * from t join t on k = k":     api.ErrName,
		"insert into t values(1, 2, 3, 'a')":  api.OK,
		"insert into t values('a', 2, 3)":     api.ErrLong,
		"update t set y = 'a'":                api.OK,
		"update t set y = 1":                  api.ErrType,
		"update t set z = 1":                  api.ErrColumn,
		"update t set x = 1":                  api.ErrColumn,
		"update t set y = 'a' where x = 1":    api.ErrColumn,
		"update t set k = 1":                  api.ErrKey,
		"delete from t where x = 1 or y = ''": api.ErrColumn,
	})
}

// Names are held against each other byte by byte, whatever bytes they have.
func TestNamesThatNoTextHas(t *testing.T) {
	for _, name := range []string{"", " ", "select", "*", "t.a", "\x00", "\xff", strings.Repeat("n", 1<<16)} {
		s := api.Schema{
			Tables: []api.Table{{Name: name, Cols: []api.Col{{Name: name + "k", Kind: api.Int}, {Name: name, Kind: api.Text}}}},
			Views:  []api.View{{Name: name}},
		}
		checks(t, s, api.Stmt{Kind: api.StCall, Name: name}, api.OK)
		checks(t, s, api.Stmt{Kind: api.StCall, Name: name + "x"}, api.ErrNone)
		checks(t, s, api.Stmt{Kind: api.StSelect, Table: name, Items: items(api.Item{Table: name, Name: name}), Order: exprs(column(name + "k"))}, api.OK)
		checks(t, s, api.Stmt{Kind: api.StUpdate, Table: name, Name: name, Values: exprs(columnOf(name, name))}, api.OK)
		checks(t, s, api.Stmt{Kind: api.StUpdate, Table: name, Name: name + "k", Values: exprs(number(1))}, api.ErrKey)
		checks(t, s, api.Stmt{Kind: api.StDelete, Table: name + "x"}, api.ErrTable)
		checks(t, s, api.Stmt{Kind: api.StDelete, Table: name, Where: exprs(column(name + "x"))}, api.ErrColumn)
	}
}

// A first column with a Ref, a second Ref and one to no table are looked at as any: they may not be set.
func TestRefsThatNoCreateMakes(t *testing.T) {
	s := api.Schema{Tables: []api.Table{{Name: "t", Cols: []api.Col{{Name: "k", Kind: api.Int, Ref: "t"}, {Name: "a", Kind: api.Int, Ref: "none"}, {Name: "b", Kind: api.Int, Ref: "t"}, {Name: "c", Kind: api.Int}}}}}
	for name, want := range map[string]api.Errno{"k": api.ErrKey, "a": api.ErrKey, "b": api.ErrKey, "c": api.OK} {
		checks(t, s, api.Stmt{Kind: api.StUpdate, Table: "t", Name: name, Values: exprs(number(1))}, want)
	}
}

// Columns of kinds that are none have these kinds all the same.
func TestKindsOfColumnsThatAreNone(t *testing.T) {
	for _, k := range []int{api.Bool, 0, -1, 4, math.MaxInt} {
		s := api.Schema{Tables: []api.Table{{Name: "t", Cols: []api.Col{{Name: "k", Kind: k}, {Name: "a", Kind: k}}}, {Name: "u", Cols: []api.Col{{Name: "b", Kind: k}, {Name: "c", Kind: api.Int}}}}}
		checks(t, s, api.Stmt{Kind: api.StInsert, Table: "t", Values: exprs(lit(k), lit(k))}, api.OK)
		checks(t, s, api.Stmt{Kind: api.StInsert, Table: "t", Values: exprs(lit(k), lit(api.Int))}, api.ErrType)
		checks(t, s, api.Stmt{Kind: api.StUpdate, Table: "t", Name: "a", Values: exprs(column("k"))}, api.OK)
		checks(t, s, api.Stmt{Kind: api.StSelect, Table: "t", Join: "u", On: exprs(column("a"), column("b"))}, api.OK)
		checks(t, s, api.Stmt{Kind: api.StSelect, Table: "t", Join: "u", On: exprs(column("a"), column("c"))}, api.ErrType)
		checks(t, s, api.Stmt{Kind: api.StSelect, Table: "t", Items: items(api.Item{Agg: api.AggSum, Name: "a"})}, api.OK)
		checks(t, s, api.Stmt{Kind: api.StDelete, Table: "t", Where: exprs(op(api.ExEq, column("a"), column("a")))}, api.ErrType)
	}
}

// Limits: lists may be long.
func TestLongLists(t *testing.T) {
	const long = 1 << 17
	s := town(t)
	st := api.Stmt{Kind: api.StSelect, Table: "t", Items: slices.Repeat(items(api.Item{Name: "a"}), long)}
	checks(t, s, st, api.OK)
	st.Items[long-1].Agg = api.AggMax
	checks(t, s, st, api.ErrType)
	st.Items[long-1].Name = "none"
	checks(t, s, st, api.ErrColumn)
	checks(t, s, api.Stmt{Kind: api.StInsert, Table: "t", Values: make([]api.Expr, long)}, api.ErrLong)
	checks(t, s, api.Stmt{Kind: api.StUpdate, Table: "t", Name: "a", Values: make([]api.Expr, long)}, api.ErrArg)
	checks(t, s, api.Stmt{Kind: api.StView, Inner: make([]api.Stmt, long)}, api.ErrArg)
	noKind(t, op(api.ExAdd, make([]api.Expr, long)...), api.ErrArg)
	wide := api.Table{Name: "wide"}
	for range long {
		wide.Cols = append(wide.Cols, api.Col{Name: "a", Kind: api.Int})
	}
	s.Tables = append(s.Tables, wide)
	checks(t, s, api.Stmt{Kind: api.StInsert, Table: "wide", Values: slices.Repeat(exprs(number(1)), long)}, api.OK)
	checks(t, s, api.Stmt{Kind: api.StInsert, Table: "wide", Values: append(slices.Repeat(exprs(number(1)), long-1), text("a"))}, api.ErrType)
	checks(t, s, api.Stmt{Kind: api.StSelect, Table: "wide", Order: exprs(column("a"))}, api.ErrColumn)
}
