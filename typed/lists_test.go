package typed_test

import (
	"math"
	"slices"
	"testing"

	"quarantine/api"
)

// samples tells a statement of each kind that may be done in the town.
func samples() []api.Stmt {
	return []api.Stmt{
		{Kind: api.StTable, Name: "new", Cols: []api.Col{{Name: "k", Kind: api.Int}}},
		{Kind: api.StIndex, Table: "t", Name: "x"},
		{Kind: api.StView, Name: "new", Inner: []api.Stmt{{Kind: api.StSelect, Table: "t"}}},
		{Kind: api.StClosure, Name: "new", Inner: []api.Stmt{{Kind: api.StDelete, Table: "t"}}},
		{Kind: api.StInsert, Table: "w", Values: exprs(number(1), text("a"))},
		{Kind: api.StSelect, Table: "t"},
		{Kind: api.StUpdate, Table: "t", Name: "a", Values: exprs(number(1))},
		{Kind: api.StDelete, Table: "t"},
		{Kind: api.StBegin},
		{Kind: api.StCommit},
		{Kind: api.StRollback},
		{Kind: api.StRaise, Tags: []uint16{1}},
		{Kind: api.StCall, Name: "v"},
	}
}

// P10.2: each kind of statement

func TestKindsOfStatements(t *testing.T) {
	s := town(t)
	for _, st := range samples() {
		checks(t, s, st, api.OK)
	}
	checksText(t, s, map[string]api.Errno{
		"create table new(k int, r int ref t)":      api.OK,
		"create index on t(x)":                      api.OK,
		"create view new strip as select * from t":  api.OK,
		"create closure new strip as delete from t": api.OK,
		"insert into t values(1, 'a', 2 + 3, -4)":   api.OK,
		"select * from t":                           api.OK,
		"update t set x = 'a' where k = 1":          api.OK,
		"delete from t where x = 'a'":               api.OK,
		"begin":                                     api.OK,
		"commit":                                    api.OK,
		"rollback":                                  api.OK,
		"raise 1, 2":                                api.OK,
		"call v":                                    api.OK,
	})
}

// The example of the chapter.
func TestExample(t *testing.T) {
	s := made(t, "create table t(k int, a int, b int)")
	checksText(t, s, map[string]api.Errno{"select sum(a), b from t": api.ErrType})
}

// P10.2 ErrArg: another Kind

func TestKindsThatAreNone(t *testing.T) {
	for _, s := range []api.Schema{{}, town(t)} {
		for _, kind := range []int{math.MinInt, -1, 0, api.StCall + 1, api.StCall + 2, 100, math.MaxInt} {
			checks(t, s, api.Stmt{Kind: kind}, api.ErrArg)
			for _, st := range samples() {
				st.Kind = kind
				checks(t, s, st, api.ErrArg)
				st.Table, st.Name = "none", "none"
				checks(t, s, st, api.ErrArg)
			}
		}
	}
}

// P10.2 StTable, StIndex: 9 looks

func TestCreatesOfTablesAndIndexes(t *testing.T) {
	s := town(t)
	for _, text := range []string{
		"create table t(k int)", "create table z(k int, k int)", "create table z(k int ref none)", "create table z(k int, r text ref t)",
		"create index on none(a)", "create index on t(none)", "create index on t(a)", "create index on t(k)",
	} {
		checksText(t, s, map[string]api.Errno{text: api.OK})
		checksText(t, api.Schema{}, map[string]api.Errno{text: api.OK})
	}
	for _, kind := range []int{api.StTable, api.StIndex} {
		checks(t, s, api.Stmt{Kind: kind}, api.OK)
		checks(t, s, api.Stmt{Kind: kind, Cols: make([]api.Col, api.MaxCols+1)}, api.OK)
	}
}

// P10.2 StBegin to StRaise: OK

func TestWordsAlone(t *testing.T) {
	for _, s := range []api.Schema{{}, town(t)} {
		for _, kind := range []int{api.StBegin, api.StCommit, api.StRollback, api.StRaise} {
			for n := range 11 {
				checks(t, s, api.Stmt{Kind: kind, Table: "none", Name: "none", Tags: make([]uint16, n)}, api.OK)
			}
		}
	}
}

// have is what a kind's lists may have, as lengths; of those that a kind has not named here nothing is asked.
type have struct {
	kind  int
	join  string
	lists map[string][]int
}

func lengths() []have {
	return []have{
		{api.StSelect, "", map[string][]int{"On": {0}, "Where": {0, 1}, "Order": {0, 1}}},
		{api.StSelect, "u", map[string][]int{"On": {2}, "Where": {0, 1}, "Order": {0, 1}}},
		{api.StUpdate, "", map[string][]int{"Values": {1}, "Where": {0, 1}}},
		{api.StDelete, "", map[string][]int{"Where": {0, 1}}},
		{api.StView, "", map[string][]int{"Inner": {1}}},
		{api.StClosure, "", map[string][]int{"Inner": {1}}},
	}
}

// fill tells st with so many in that list, each of which fits there.
func fill(st api.Stmt, list string, n int) api.Stmt {
	switch list {
	case "On":
		st.On = slices.Repeat(exprs(columnOf("t", "a")), n)
	case "Where":
		st.Where = slices.Repeat(exprs(holds()), n)
	case "Order":
		st.Order = slices.Repeat(exprs(columnOf("t", "a")), n)
	case "Values":
		st.Values = slices.Repeat(exprs(number(1)), n)
	case "Inner":
		st.Inner = slices.Repeat([]api.Stmt{{Kind: api.StSelect, Table: "t"}}, n)
	}
	return st
}

// least tells a statement whose lists have the least that they may.
func least(h have) api.Stmt {
	st := api.Stmt{Kind: h.kind, Join: h.join, Table: "t", Name: "a"}
	for list, l := range h.lists {
		st = fill(st, list, slices.Min(l))
	}
	return st
}

// P10.2 ErrArg: lists that have not the length that api says, ahead of all else

func TestLengthsOfLists(t *testing.T) {
	s := town(t)
	for _, h := range lengths() {
		checks(t, s, least(h), api.OK)
		for list, may := range h.lists {
			for n := range 6 {
				st := fill(least(h), list, n)
				if slices.Contains(may, n) {
					checks(t, s, st, api.OK)
					continue
				}
				checks(t, s, st, api.ErrArg)
				checks(t, api.Schema{}, st, api.ErrArg)
				for _, other := range broken(st) {
					checks(t, s, other, api.ErrArg)
				}
			}
		}
	}
}

// broken tells st with all that may be wrong with it beside its lists, one by one.
func broken(st api.Stmt) []api.Stmt {
	table, join, name, both, item, agg := st, st, st, st, st, st
	table.Table = "none"
	name.Name = "none"
	item.Items = items(api.Item{Name: "none"})
	agg.Items = items(api.Item{Agg: 9}, api.Item{Agg: api.AggCount}, api.Item{Name: "k"})
	l := []api.Stmt{table, name, item, agg}
	if st.Join != "" {
		join.Join, both.Join = "none", st.Table
		l = append(l, join, both)
	}
	for _, e := range wrong() {
		where, value := st, st
		where.Where = slices.Repeat(exprs(e), len(st.Where))
		value.Values = slices.Repeat(exprs(e), len(st.Values))
		l = append(l, where, value)
	}
	return l
}

// P10.2: lists that are not this kind's are not looked at

func TestListsOfOtherKinds(t *testing.T) {
	s := town(t)
	mine := map[int][]string{
		api.StView: {"Inner"}, api.StClosure: {"Inner"}, api.StInsert: {"Values"}, api.StUpdate: {"Values", "Where"}, api.StDelete: {"Where"},
		api.StSelect: {"On", "Where", "Order", "Items"},
	}
	for _, st := range samples() {
		is := func(list string) bool { return slices.Contains(mine[st.Kind], list) }
		was := st
		for _, e := range append(exprs(holds(), number(1), api.Expr{}), wrong()[api.ErrArg], wrong()[api.ErrColumn]) {
			for n := range 5 {
				st = was
				l := slices.Repeat(exprs(e), n)
				if !is("Values") {
					st.Values = l
				}
				if !is("On") {
					st.On = l
				}
				if !is("Where") {
					st.Where = l
				}
				if !is("Order") {
					st.Order = l
				}
				if !is("Inner") {
					st.Inner = make([]api.Stmt, n)
				}
				if !is("Items") {
					st.Items, st.Join = make([]api.Item, n), "none"
				}
				if st.Kind != api.StTable {
					st.Cols = make([]api.Col, n)
				}
				st.Tags, st.Desc = slices.Repeat([]uint16{9}, n*9), true
				checks(t, s, st, api.OK)
			}
		}
	}
}

// P10.2 ErrArg: an On, an Order that is no ExCol (without Args), ahead of all else

func TestColumnsThatAreNone(t *testing.T) {
	s := town(t)
	no := exprs(number(1), text("a"), holds(), op(api.ExNeg, column("a")), op(api.ExNot, holds()), op(api.ExEq, column("a"), column("a")), api.Expr{}, wrong()[api.ErrArg], wrong()[api.ErrType],
		api.Expr{Op: api.ExLit, Table: "t", Name: "a"})
	for _, o := range noOps {
		no = append(no, api.Expr{Op: o, Table: "t", Name: "a"})
	}
	for n := range 3 {
		no = append(no, api.Expr{Op: api.ExCol, Table: "t", Name: "a", Args: make([]api.Expr, n+1)})
	}
	join := api.Stmt{Kind: api.StSelect, Table: "t", Join: "u"}
	for _, e := range no {
		for _, good := range exprs(columnOf("t", "a"), column("none")) {
			for _, on := range [][]api.Expr{{e, good}, {good, e}, {e, e}} {
				st := join
				st.On = on
				checks(t, s, st, api.ErrArg)
				for _, other := range broken(st) {
					checks(t, s, other, api.ErrArg)
				}
			}
		}
		for _, st := range []api.Stmt{{Kind: api.StSelect, Table: "t"}, fill(join, "On", 2)} {
			st.Order = exprs(e)
			checks(t, s, st, api.ErrArg)
			for _, other := range broken(st) {
				checks(t, s, other, api.ErrArg)
			}
			if st.Join != "" {
				st.On = exprs(column("none"), column("x"))
				checks(t, s, st, api.ErrArg)
			}
		}
	}
	// A column that is not there is one, all the same: what it says is told in its turn.
	checks(t, s, api.Stmt{Kind: api.StSelect, Table: "none", Order: exprs(column("none"))}, api.ErrTable)
	checks(t, s, api.Stmt{Kind: api.StSelect, Table: "none", Order: []api.Expr{{Op: api.ExCol, Args: []api.Expr{}}}}, api.ErrTable)
	checks(t, s, api.Stmt{Kind: api.StSelect, Table: "none", Join: "u", On: exprs(column("none"), column("none"))}, api.ErrTable)
}
