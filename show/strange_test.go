package show_test

import (
	"math"
	"slices"
	"strings"
	"testing"

	"quarantine/api"
	"quarantine/show"
)

// P8.1, R1, R3: an expression that no promise names is nothing, also within others

func TestExpressionsOfNoKind(t *testing.T) {
	args := exprs(column("a"), column("b"), column("c"))
	for _, kind := range []int{math.MinInt, -1, 0, api.ExOr + 1, api.ExOr + 2, 100, math.MaxInt} {
		for n := range len(args) + 1 {
			x := api.Expr{Op: kind, Value: api.Value{Kind: api.Int, Int: 1}, Table: "t", Name: "a", Args: args[:n]}
			expr(t, x, "")
			expr(t, op(api.ExNeg, x), "(-)")
			expr(t, op(api.ExAnd, x, number(1)), "( and 1)")
		}
	}
	expr(t, api.Expr{}, "")
}

func TestValuesOfNoKind(t *testing.T) {
	for _, kind := range []int{math.MinInt, -1, 0, api.Bool, 4, math.MaxInt} {
		x := api.Expr{Op: api.ExLit, Value: api.Value{Kind: kind, Int: 1, Text: "a"}}
		expr(t, x, "")
		expr(t, op(api.ExNot, x), "(not )")
	}
}

func TestPartsOfOtherNumbers(t *testing.T) {
	args := exprs(number(1), number(2), number(3), number(4))
	for n := range len(args) + 1 {
		for _, kind := range []int{api.ExNeg, api.ExNot} {
			if n != 1 {
				expr(t, op(kind, args[:n]...), "")
				expr(t, op(kind, op(kind, args[:n]...)), show.Expr(op(kind, api.Expr{})))
			}
		}
		for _, b := range between {
			if n != 2 {
				expr(t, op(b.op, args[:n]...), "")
				expr(t, op(b.op, op(b.op, args[:n]...), number(1)), "( "+b.word+" 1)")
			}
		}
		// A value and a column have no parts: what stands there says nothing.
		expr(t, api.Expr{Op: api.ExCol, Name: "a", Args: args[:n]}, "a")
		expr(t, api.Expr{Op: api.ExLit, Value: api.Value{Kind: api.Int, Int: 5}, Args: args[:n]}, "5")
	}
}

// Bytes that no text of Parse's has are shown as they are.
func TestOtherBytes(t *testing.T) {
	var bytes []byte
	for b := range 256 {
		bytes = append(bytes, byte(b))
	}
	s := string(bytes)
	expr(t, text(s), "'"+strings.ReplaceAll(s, "'", "''")+"'")
	expr(t, text("\xff'\x00"), "'\xff''\x00'")
	expr(t, text(strings.Repeat("'x", 1<<16)), "'"+strings.Repeat("''x", 1<<16)+"'")
	expr(t, api.Expr{Op: api.ExCol, Table: s, Name: s}, s+"."+s)
	expr(t, api.Expr{Op: api.ExCol, Table: "t"}, "t.")
	expr(t, api.Expr{Op: api.ExCol}, "")
	stmt(t, api.Stmt{Kind: api.StCall, Name: s}, "call "+s)
	stmt(t, api.Stmt{Kind: api.StDelete, Table: "("}, "delete from (")
}

// P8.2, R1, R3: a statement that the grammar has no words for is nothing

func TestStatementsOfNoKind(t *testing.T) {
	stmt(t, api.Stmt{}, "")
	for _, s := range samples() {
		for _, kind := range []int{math.MinInt, -1, 0, api.StCall + 1, api.StCall + 2, math.MaxInt} {
			st := s.st
			st.Kind = kind
			stmt(t, st, "")
		}
	}
}

func TestStatementsWithoutWhatTheyNeed(t *testing.T) {
	one, two := exprs(number(1)), exprs(column("a"), column("b"))
	three := append(slices.Clone(two), column("c"))
	for _, st := range []api.Stmt{
		{Kind: api.StTable, Name: "t"},
		{Kind: api.StTable, Name: "t", Cols: []api.Col{{Name: "k"}}},
		{Kind: api.StTable, Name: "t", Cols: []api.Col{{Name: "k", Kind: api.Int}, {Name: "x", Kind: api.Bool}}},
		{Kind: api.StTable, Name: "t", Cols: []api.Col{{Name: "k", Kind: -1, Ref: "u"}}},
		{Kind: api.StInsert, Table: "t"},
		{Kind: api.StUpdate, Table: "t", Name: "a"},
		{Kind: api.StUpdate, Table: "t", Name: "a", Values: two},
		{Kind: api.StUpdate, Table: "t", Name: "a", Values: one, Where: two},
		{Kind: api.StDelete, Table: "t", Where: two},
		{Kind: api.StSelect, Table: "t", Where: two},
		{Kind: api.StSelect, Table: "t", Order: two},
		{Kind: api.StSelect, Table: "t", Order: two, Desc: true},
		{Kind: api.StSelect, Table: "t", Desc: true},
		{Kind: api.StSelect, Table: "t", Order: one},
		{Kind: api.StSelect, Table: "t", Order: one, Desc: true},
		{Kind: api.StSelect, Table: "t", Join: "u", On: exprs(column("a"), number(1))},
		{Kind: api.StSelect, Table: "t", Join: "u", On: exprs(text("a"), column("b"))},
		{Kind: api.StSelect, Table: "t", Join: "u"},
		{Kind: api.StSelect, Table: "t", Join: "u", On: one},
		{Kind: api.StSelect, Table: "t", Join: "u", On: three},
		{Kind: api.StSelect, Table: "t", On: two},
		{Kind: api.StSelect, Table: "t", Items: []api.Item{{Agg: -1, Name: "a"}}},
		{Kind: api.StSelect, Table: "t", Items: []api.Item{{Name: "a"}, {Agg: api.AggMax + 1, Name: "a"}}},
		{Kind: api.StRaise},
		{Kind: api.StView, Name: "v", Tags: []uint16{1}},
		{Kind: api.StClosure, Name: "v", Tags: []uint16{1}},
	} {
		stmt(t, st, "")
		for _, kind := range []int{api.StView, api.StClosure} {
			stmt(t, api.Stmt{Kind: kind, Name: "v", Inner: []api.Stmt{st}}, "")
		}
	}
}

func TestDoorsOfOthers(t *testing.T) {
	query, change := api.Stmt{Kind: api.StSelect, Table: "t"}, api.Stmt{Kind: api.StDelete, Table: "t"}
	for _, s := range samples() {
		changes := s.st.Kind == api.StInsert || s.st.Kind == api.StUpdate || s.st.Kind == api.StDelete
		if s.st.Kind != api.StSelect {
			stmt(t, api.Stmt{Kind: api.StView, Name: "v", Inner: []api.Stmt{s.st}}, "")
		}
		if !changes {
			stmt(t, api.Stmt{Kind: api.StClosure, Name: "v", Inner: []api.Stmt{s.st}}, "")
		}
	}
	stmt(t, api.Stmt{Kind: api.StView, Name: "v", Inner: []api.Stmt{query}}, "create view v strip as select * from t")
	stmt(t, api.Stmt{Kind: api.StView, Name: "v", Inner: []api.Stmt{query, query}}, "")
	stmt(t, api.Stmt{Kind: api.StClosure, Name: "v", Inner: []api.Stmt{change}}, "create closure v strip as delete from t")
	stmt(t, api.Stmt{Kind: api.StClosure, Name: "v", Inner: []api.Stmt{change, change}}, "")
	for range 1 << 16 {
		query = api.Stmt{Kind: api.StView, Name: "v", Inner: []api.Stmt{query}}
	}
	stmt(t, query, "")
}

// What a kind does not have says nothing of a statement of it.
func TestFieldsOfOtherKinds(t *testing.T) {
	stray := exprs(number(9), number(8), number(7))
	for _, s := range slices.Concat(tables(), others()) {
		st := s.st
		st.Values, st.On, st.Where, st.Order, st.Join, st.Desc = stray, stray, stray, stray, "u", true
		st.Items, st.Inner = []api.Item{{Name: "z"}}, []api.Stmt{{}, {}}
		stmt(t, st, s.want)
	}
	stmt(t, api.Stmt{Kind: api.StSelect, Table: "t", Items: []api.Item{{Agg: api.AggCount, Table: "t", Name: "a"}}, Name: "n", Tags: []uint16{1}, Values: stray}, "select count(*) from t")
}

// strangeExpr tells an expression of any form.
func strangeExpr(d *dice, deep int) api.Expr {
	x := api.Expr{
		Op:    d.next(20) - 2,
		Value: api.Value{Kind: d.next(6) - 1, Int: int64(d.next(5) - 2), Text: []string{"", "'", "a"}[d.next(3)]},
		Table: []string{"", "t"}[d.next(2)],
		Name:  []string{"", "a"}[d.next(2)],
	}
	for range d.next(4) {
		if deep > 0 {
			x.Args = append(x.Args, strangeExpr(d, deep-1))
		}
	}
	return x
}

func strangeExprs(d *dice) []api.Expr {
	var l []api.Expr
	for range d.next(4) {
		l = append(l, strangeExpr(d, d.next(4)))
	}
	return l
}

// strangeStmt tells a statement of any form.
func strangeStmt(d *dice, deep int) api.Stmt {
	st := api.Stmt{
		Kind: d.next(17) - 2, Table: []string{"", "t"}[d.next(2)], Name: []string{"", "n"}[d.next(2)], Join: []string{"", "u"}[d.next(2)], Desc: d.next(2) == 0,
		Values: strangeExprs(d), On: strangeExprs(d), Where: strangeExprs(d), Order: strangeExprs(d),
	}
	for range d.next(3) {
		st.Cols = append(st.Cols, api.Col{Name: "k", Kind: d.next(5) - 1, Ref: []string{"", "u"}[d.next(2)]})
		st.Items = append(st.Items, api.Item{Agg: d.next(8) - 2, Name: "a"})
		st.Tags = append(st.Tags, uint16(d.next(3)))
		if deep > 0 {
			st.Inner = append(st.Inner, strangeStmt(d, deep-1))
		}
	}
	return st
}

// R1: none panics; R4: what is told is the same each time

func TestWhateverIsHandedIn(t *testing.T) {
	d := dice(3)
	for range 50000 {
		x := strangeExpr(&d, 5)
		expr(t, x, show.Expr(x))
		st := strangeStmt(&d, 3)
		stmt(t, st, show.Show(st))
	}
}
