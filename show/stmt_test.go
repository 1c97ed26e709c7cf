package show_test

import (
	"slices"
	"strings"
	"testing"

	"quarantine/api"
)

// sample is a statement, and the text that is shown of it.
type sample struct {
	want string
	st   api.Stmt
}

// piece is an expression, and its text.
type piece struct {
	text string
	x    api.Expr
}

// pieces are expressions of each kind: some begin with a bracket, some do not.
func pieces() []piece {
	return []piece{
		{"1", number(1)},
		{"''", text("")},
		{"'a''b'", text("a'b")},
		{"a", column("a")},
		{"t.a", column("t.a")},
		{"(-2)", op(api.ExNeg, number(2))},
		{"(not a)", op(api.ExNot, column("a"))},
		{"(a = 1)", op(api.ExEq, column("a"), number(1))},
		{"((a < 1) or (not (t.b >= 'x')))", op(api.ExOr, op(api.ExLt, column("a"), number(1)), op(api.ExNot, op(api.ExGe, column("t.b"), text("x"))))},
	}
}

// wheres puts nothing, and each piece, behind each sample.
func wheres(l []sample) []sample {
	var out []sample
	for _, s := range l {
		out = append(out, s)
		for _, p := range pieces() {
			st := s.st
			st.Where = exprs(p.x)
			out = append(out, sample{s.want + " where " + p.text, st})
		}
	}
	return out
}

func tables() []sample {
	table := func(name string, cols ...api.Col) api.Stmt {
		return api.Stmt{Kind: api.StTable, Name: name, Cols: cols}
	}
	k, x := api.Col{Name: "k", Kind: api.Int}, api.Col{Name: "x", Kind: api.Text}
	r, s := api.Col{Name: "r", Kind: api.Int, Ref: "u"}, api.Col{Name: "s_1", Kind: api.Text, Ref: "t"}
	return []sample{
		{"create table t(k int)", table("t", k)},
		{"create table t(x text)", table("t", x)},
		{"create table t(r int ref u)", table("t", r)},
		{"create table t(s_1 text ref t)", table("t", s)},
		{"create table t(k int, x text)", table("t", k, x)},
		{"create table t(x text, k int)", table("t", x, k)},
		{"create table t(r int ref u, k int)", table("t", r, k)},
		{"create table abcdefghijklmnop(k int, x text, r int ref u, s_1 text ref t)", table("abcdefghijklmnop", k, x, r, s)},
		{"create table _(s_1 text ref t, s_1 text ref t, k int, k int, k int, k int, k int)", table("_", s, s, k, k, k, k, k)},
		{"create index on t(x)", api.Stmt{Kind: api.StIndex, Table: "t", Name: "x"}},
		{"create index on x(t)", api.Stmt{Kind: api.StIndex, Table: "x", Name: "t"}},
		{"create index on abcdefghijklmnop(_0123456789_abcd)", api.Stmt{Kind: api.StIndex, Table: "abcdefghijklmnop", Name: "_0123456789_abcd"}},
	}
}

// changes are the statements that write rows.
func changes() []sample {
	var inserts, updates []sample
	for _, p := range pieces() {
		inserts = append(inserts,
			sample{"insert into t values(" + p.text + ")", api.Stmt{Kind: api.StInsert, Table: "t", Values: exprs(p.x)}},
			sample{"insert into t values(" + p.text + ", 7)", api.Stmt{Kind: api.StInsert, Table: "t", Values: exprs(p.x, number(7))}},
			sample{"insert into t_1 values(b, " + p.text + ")", api.Stmt{Kind: api.StInsert, Table: "t_1", Values: exprs(column("b"), p.x)}},
			sample{"insert into t values(" + p.text + ", (-(-1)), " + p.text + ")", api.Stmt{Kind: api.StInsert, Table: "t", Values: exprs(p.x, op(api.ExNeg, op(api.ExNeg, number(1))), p.x)}})
		updates = append(updates, sample{"update t set x = " + p.text, api.Stmt{Kind: api.StUpdate, Table: "t", Name: "x", Values: exprs(p.x)}})
	}
	deletes := []sample{
		{"delete from t", api.Stmt{Kind: api.StDelete, Table: "t"}},
		{"delete from abcdefghijklmnop", api.Stmt{Kind: api.StDelete, Table: "abcdefghijklmnop"}},
	}
	return slices.Concat(inserts, wheres(updates), wheres(deletes))
}

// items are what may stand behind select.
func items() []sample {
	query := func(l ...api.Item) api.Stmt { return api.Stmt{Kind: api.StSelect, Table: "t", Items: l} }
	a, b := api.Item{Name: "a"}, api.Item{Table: "t", Name: "b"}
	count := api.Item{Agg: api.AggCount}
	sum, min, max := api.Item{Agg: api.AggSum, Name: "c"}, api.Item{Agg: api.AggMin, Name: "d"}, api.Item{Agg: api.AggMax, Name: "e"}
	sumOf, minOf, maxOf := api.Item{Agg: api.AggSum, Table: "t", Name: "c"}, api.Item{Agg: api.AggMin, Table: "u", Name: "d"}, api.Item{Agg: api.AggMax, Table: "t", Name: "e"}
	return []sample{
		{"*", query()},
		{"a", query(a)},
		{"t.b", query(b)},
		{"count(*)", query(count)},
		{"sum(c)", query(sum)},
		{"min(d)", query(min)},
		{"max(e)", query(max)},
		{"sum(t.c)", query(sumOf)},
		{"min(u.d)", query(minOf)},
		{"max(t.e)", query(maxOf)},
		{"a, t.b", query(a, b)},
		{"t.b, a, a", query(b, a, a)},
		{"count(*), a", query(count, a)},
		{"a, count(*), count(*)", query(a, count, count)},
		{"sum(c), min(d), max(e), sum(t.c), min(u.d), max(t.e), count(*), a, t.b", query(sum, min, max, sumOf, minOf, maxOf, count, a, b)},
	}
}

func queries() []sample {
	var joined, out []sample
	for _, s := range items() {
		s.want = "select " + s.want + " from t"
		joined = append(joined, s)
		for want, on := range map[string][]api.Expr{
			"a = b":     exprs(column("a"), column("b")),
			"t.a = b":   exprs(column("t.a"), column("b")),
			"a = u.b":   exprs(column("a"), column("u.b")),
			"u.b = t.a": exprs(column("u.b"), column("t.a")),
		} {
			st := s.st
			st.Join, st.On = "u", on
			joined = append(joined, sample{s.want + " join u on " + want, st})
		}
	}
	for _, s := range wheres(joined) {
		out = append(out, s)
		for _, by := range []string{"a", "t.a"} {
			st := s.st
			st.Order = exprs(column(by))
			out = append(out, sample{s.want + " order by " + by, st})
			st.Desc = true
			out = append(out, sample{s.want + " order by " + by + " desc", st})
		}
	}
	return out
}

// tagLists are lists of tags, as they stand ahead of a word.
func tagLists() map[string][]uint16 {
	return map[string][]uint16{
		"0": {0}, "5": {5}, "65535": {65535}, "5, 1": {5, 1}, "1, 1": {1, 1}, "65535, 0, 256, 255": {65535, 0, 256, 255},
		strings.Repeat("9, ", 30) + "10": append(slices.Repeat([]uint16{9}, 30), 10),
	}
}

func doors() []sample {
	var out []sample
	door := func(kind int, word string, inner []sample) {
		for _, s := range inner {
			out = append(out, sample{"create " + word + " v strip as " + s.want, api.Stmt{Kind: kind, Name: "v", Inner: []api.Stmt{s.st}}})
		}
		for tags, l := range tagLists() {
			for i := 0; i < len(inner); i += 17 {
				out = append(out, sample{"create " + word + " c_2 strip " + tags + " as " + inner[i].want, api.Stmt{Kind: kind, Name: "c_2", Tags: l, Inner: []api.Stmt{inner[i].st}}})
			}
		}
	}
	door(api.StView, "view", queries())
	door(api.StClosure, "closure", changes())
	return out
}

func others() []sample {
	out := []sample{
		{"begin", api.Stmt{Kind: api.StBegin}},
		{"commit", api.Stmt{Kind: api.StCommit}},
		{"rollback", api.Stmt{Kind: api.StRollback}},
		{"call v", api.Stmt{Kind: api.StCall, Name: "v"}},
		{"call abcdefghijklmnop", api.Stmt{Kind: api.StCall, Name: "abcdefghijklmnop"}},
	}
	for tags, l := range tagLists() {
		out = append(out, sample{"raise " + tags, api.Stmt{Kind: api.StRaise, Tags: l}})
	}
	return out
}

func samples() []sample {
	return slices.Concat(tables(), changes(), queries(), doors(), others())
}

// P8.2: each kind of statement

func TestStatements(t *testing.T) {
	for name, l := range map[string][]sample{"tables": tables(), "changes": changes(), "queries": queries(), "doors": doors(), "others": others()} {
		t.Run(name, func(t *testing.T) {
			for _, s := range l {
				stmt(t, s.st, s.want)
			}
		})
	}
}

func TestEachTag(t *testing.T) {
	for tag := range 65536 {
		st := api.Stmt{Kind: api.StRaise, Tags: []uint16{uint16(tag), 7}}
		want := "raise " + plainly(number(int64(tag))) + ", 7"
		stmt(t, st, want)
	}
}

func TestTheExamples(t *testing.T) {
	stmt(t, api.Stmt{Kind: api.StInsert, Table: "t", Values: exprs(number(1), text("a"))}, "insert into t values(1, 'a')")
	stmt(t, api.Stmt{Kind: api.StSelect, Table: "t", Items: []api.Item{{Agg: api.AggCount}}, Where: exprs(op(api.ExEq, column("a"), number(1))), Order: exprs(column("a")), Desc: true}, "select count(*) from t where (a = 1) order by a desc")
	stmt(t, api.Stmt{Kind: api.StIndex, Table: "t", Name: "c"}, "create index on t(c)")
}

// R3: nil and an empty list are one

func TestEmptyLists(t *testing.T) {
	for _, s := range append(samples(), sample{"", api.Stmt{}}) {
		stmt(t, emptied(s.st), s.want)
	}
	expr(t, api.Expr{Op: api.ExCol, Name: "a", Args: []api.Expr{}}, "a")
}

// emptied tells st with an empty list for each that it has not.
func emptied(st api.Stmt) api.Stmt {
	for _, l := range []*[]api.Expr{&st.Values, &st.On, &st.Where, &st.Order} {
		*l = append(make([]api.Expr, 0, len(*l)), *l...)
		for i := range *l {
			if (*l)[i].Args == nil {
				(*l)[i].Args = []api.Expr{}
			}
		}
	}
	st.Cols = append([]api.Col{}, st.Cols...)
	st.Tags = append([]uint16{}, st.Tags...)
	st.Items = append([]api.Item{}, st.Items...)
	inner := []api.Stmt{}
	for _, x := range st.Inner {
		inner = append(inner, emptied(x))
	}
	st.Inner = inner
	return st
}
