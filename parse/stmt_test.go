package parse_test

import (
	"slices"
	"strings"
	"testing"

	"quarantine/api"
)

// sample is a text, and the statement that it is.
type sample struct {
	text string
	want api.Stmt
}

// Each kind of statement with all its fields, with and without each part that may be left out, and with one and with several members of each list.

func tables() []sample {
	return []sample{
		{"create table t ( k int )", api.Stmt{Kind: api.StTable, Name: "t", Cols: []api.Col{{Name: "k", Kind: api.Int}}}},
		{"create table t ( k text )", api.Stmt{Kind: api.StTable, Name: "t", Cols: []api.Col{{Name: "k", Kind: api.Text}}}},
		{"create table t ( k int ref u )", api.Stmt{Kind: api.StTable, Name: "t", Cols: []api.Col{{Name: "k", Kind: api.Int, Ref: "u"}}}},
		{"create table t_1 ( k text ref t_1 , k int , k text , _ int ref _ )", api.Stmt{Kind: api.StTable, Name: "t_1", Cols: []api.Col{
			{Name: "k", Kind: api.Text, Ref: "t_1"}, {Name: "k", Kind: api.Int}, {Name: "k", Kind: api.Text}, {Name: "_", Kind: api.Int, Ref: "_"}}}},
		// How many columns a table may have is not asked here.
		{"create table t ( a int , b int , c int , d int , e int , f int , g int , h text )", api.Stmt{Kind: api.StTable, Name: "t", Cols: []api.Col{
			{Name: "a", Kind: api.Int}, {Name: "b", Kind: api.Int}, {Name: "c", Kind: api.Int}, {Name: "d", Kind: api.Int},
			{Name: "e", Kind: api.Int}, {Name: "f", Kind: api.Int}, {Name: "g", Kind: api.Int}, {Name: "h", Kind: api.Text}}}},
		{"create index on t ( c )", api.Stmt{Kind: api.StIndex, Table: "t", Name: "c"}},
		{"create index on c ( t )", api.Stmt{Kind: api.StIndex, Table: "c", Name: "t"}},
	}
}

func changes() []sample {
	return []sample{
		{"insert into t values ( 1 )", api.Stmt{Kind: api.StInsert, Table: "t", Values: exprs(number(1))}},
		{"insert into t values ( 1 , 'it''s' , - 2 , a + u . b )", api.Stmt{Kind: api.StInsert, Table: "t",
			Values: exprs(number(1), text("it's"), op(api.ExNeg, number(2)), op(api.ExAdd, column("a"), column("u.b")))}},
		{"insert into t values ( '' , 0 , 'values' , '(' )", api.Stmt{Kind: api.StInsert, Table: "t", Values: exprs(text(""), number(0), text("values"), text("("))}},
		{"update t set c = 1", api.Stmt{Kind: api.StUpdate, Table: "t", Name: "c", Values: exprs(number(1))}},
		{"update c set t = 'x' where k = 7", api.Stmt{Kind: api.StUpdate, Table: "c", Name: "t", Values: exprs(text("x")),
			Where: exprs(op(api.ExEq, column("k"), number(7)))}},
		// The first "=" is the statement's, the second a comparison.
		{"update t set c = c = 1 where t . k", api.Stmt{Kind: api.StUpdate, Table: "t", Name: "c", Values: exprs(op(api.ExEq, column("c"), number(1))),
			Where: exprs(column("t.k"))}},
		{"delete from t", api.Stmt{Kind: api.StDelete, Table: "t"}},
		{"delete from t where not a", api.Stmt{Kind: api.StDelete, Table: "t", Where: exprs(op(api.ExNot, column("a")))}},
	}
}

func queries() []sample {
	return []sample{
		{"select * from t", api.Stmt{Kind: api.StSelect, Table: "t"}},
		{"select * from t where a = 1", api.Stmt{Kind: api.StSelect, Table: "t", Where: exprs(op(api.ExEq, column("a"), number(1)))}},
		{"select a from t", api.Stmt{Kind: api.StSelect, Table: "t", Items: []api.Item{{Name: "a"}}}},
		{"select t . a from t", api.Stmt{Kind: api.StSelect, Table: "t", Items: []api.Item{{Table: "t", Name: "a"}}}},
		{"select count ( * ) from t", api.Stmt{Kind: api.StSelect, Table: "t", Items: []api.Item{{Agg: api.AggCount}}}},
		{"select sum ( a ) from t", api.Stmt{Kind: api.StSelect, Table: "t", Items: []api.Item{{Agg: api.AggSum, Name: "a"}}}},
		{"select min ( a ) from t", api.Stmt{Kind: api.StSelect, Table: "t", Items: []api.Item{{Agg: api.AggMin, Name: "a"}}}},
		{"select max ( a ) from t", api.Stmt{Kind: api.StSelect, Table: "t", Items: []api.Item{{Agg: api.AggMax, Name: "a"}}}},
		{"select sum ( t . a ) , min ( u . b ) , max ( v . c ) from t", api.Stmt{Kind: api.StSelect, Table: "t", Items: []api.Item{
			{Agg: api.AggSum, Table: "t", Name: "a"}, {Agg: api.AggMin, Table: "u", Name: "b"}, {Agg: api.AggMax, Table: "v", Name: "c"}}}},
		{"select a , count ( * ) , t . a , max ( a ) , a , count ( * ) from t", api.Stmt{Kind: api.StSelect, Table: "t", Items: []api.Item{
			{Name: "a"}, {Agg: api.AggCount}, {Table: "t", Name: "a"}, {Agg: api.AggMax, Name: "a"}, {Name: "a"}, {Agg: api.AggCount}}}},
		{"select * from t join u on a = b", api.Stmt{Kind: api.StSelect, Table: "t", Join: "u", On: exprs(column("a"), column("b"))}},
		{"select * from t join u on t . a = u . b", api.Stmt{Kind: api.StSelect, Table: "t", Join: "u", On: exprs(column("t.a"), column("u.b"))}},
		{"select * from t join u on u . b = a", api.Stmt{Kind: api.StSelect, Table: "t", Join: "u", On: exprs(column("u.b"), column("a"))}},
		{"select * from t order by a", api.Stmt{Kind: api.StSelect, Table: "t", Order: exprs(column("a"))}},
		{"select * from t order by t . a", api.Stmt{Kind: api.StSelect, Table: "t", Order: exprs(column("t.a"))}},
		{"select * from t order by a desc", api.Stmt{Kind: api.StSelect, Table: "t", Order: exprs(column("a")), Desc: true}},
		{"select * from t join u on a = b where c", api.Stmt{Kind: api.StSelect, Table: "t", Join: "u", On: exprs(column("a"), column("b")), Where: exprs(column("c"))}},
		{"select * from t join u on a = b order by c", api.Stmt{Kind: api.StSelect, Table: "t", Join: "u", On: exprs(column("a"), column("b")), Order: exprs(column("c"))}},
		{"select * from t where c order by d", api.Stmt{Kind: api.StSelect, Table: "t", Where: exprs(column("c")), Order: exprs(column("d"))}},
		{"select x , sum ( t . y ) from t join u on t . a = u . b where 'q' <= z or a < 1 order by u . c desc", api.Stmt{Kind: api.StSelect,
			Items: []api.Item{{Name: "x"}, {Agg: api.AggSum, Table: "t", Name: "y"}}, Table: "t", Join: "u", On: exprs(column("t.a"), column("u.b")),
			Where: exprs(op(api.ExOr, op(api.ExLe, text("q"), column("z")), op(api.ExLt, column("a"), number(1)))),
			Order: exprs(column("u.c")), Desc: true}},
	}
}

func others() []sample {
	return []sample{
		{"begin", api.Stmt{Kind: api.StBegin}},
		{"commit", api.Stmt{Kind: api.StCommit}},
		{"rollback", api.Stmt{Kind: api.StRollback}},
		{"raise 1", api.Stmt{Kind: api.StRaise, Tags: []uint16{1}}},
		{"raise 0 , 65535 , 007 , 0 , 65534", api.Stmt{Kind: api.StRaise, Tags: []uint16{0, 65535, 7, 0, 65534}}},
		// How many tags a label may have is not asked here.
		{"raise 9 , 8 , 7 , 6 , 5 , 4 , 3 , 2 , 1 , 0", api.Stmt{Kind: api.StRaise, Tags: []uint16{9, 8, 7, 6, 5, 4, 3, 2, 1, 0}}},
		{"call v", api.Stmt{Kind: api.StCall, Name: "v"}},
		{"call abcdefghijklmnop", api.Stmt{Kind: api.StCall, Name: "abcdefghijklmnop"}},
	}
}

// doors are views of all queries and closures of all changes, with no tag, with one and with several.
func doors() []sample {
	var out []sample
	strips := []struct {
		text string
		tags []uint16
	}{{"strip", nil}, {"strip 5", []uint16{5}}, {"strip 7 , 65535 , 7 , 0", []uint16{7, 65535, 7, 0}}}
	for _, strip := range strips {
		for _, x := range queries() {
			out = append(out, sample{"create view v " + strip.text + " as " + x.text,
				api.Stmt{Kind: api.StView, Name: "v", Tags: strip.tags, Inner: []api.Stmt{x.want}}})
		}
		for _, x := range changes() {
			out = append(out, sample{"create closure c " + strip.text + " as " + x.text,
				api.Stmt{Kind: api.StClosure, Name: "c", Tags: strip.tags, Inner: []api.Stmt{x.want}}})
		}
	}
	return out
}

func samples() []sample {
	return slices.Concat(tables(), changes(), queries(), others(), doors())
}

// P7.1: statements of each kind

func TestStatements(t *testing.T) {
	for _, x := range samples() {
		good(t, x.text, x.want)
	}
}

// P7.1: spaces between words, or none where none is wanted

// tight tells words with spaces only where two would run into one.
func tight(words []string) string {
	ofName := func(c byte) bool { return 'a' <= c && c <= 'z' || '0' <= c && c <= '9' || c == '_' }
	s := words[0]
	for _, w := range words[1:] {
		if ofName(s[len(s)-1]) && ofName(w[0]) {
			s += " "
		}
		s += w
	}
	return s
}

func TestSpaces(t *testing.T) {
	for _, x := range samples() {
		words := strings.Fields(x.text)
		good(t, tight(words), x.want)
		good(t, "  "+tight(words)+"   ", x.want)
		if wide := "   " + strings.Join(words, "    ") + "     "; len(wide) <= api.MaxText {
			good(t, wide, x.want)
		}
		room := strings.Repeat(" ", api.MaxText-len(x.text))
		good(t, x.text+room, x.want)
		good(t, room+x.text, x.want)
		bad(t, x.text+room+" ", 0, api.ErrLong)
	}
	good(t, "select*from t where'a'='b'or(1)<-1", api.Stmt{Kind: api.StSelect, Table: "t",
		Where: exprs(op(api.ExOr, op(api.ExEq, text("a"), text("b")), op(api.ExLt, number(1), op(api.ExNeg, number(1)))))})
	good(t, "insert into t values(1)", api.Stmt{Kind: api.StInsert, Table: "t", Values: exprs(number(1))})
	// Words that run into each other are another one.
	bad(t, "begincommit", 0, api.ErrParse)
	bad(t, "selecta from t", 0, api.ErrParse)
	bad(t, "select a fromt", 9, api.ErrParse)
	bad(t, "select a from t orderby a", 16, api.ErrParse)
	bad(t, "delete from t where nota b", 25, api.ErrParse)
}

// The examples of the document.
func TestExamples(t *testing.T) {
	bad(t, "commit x", 7, api.ErrParse)
	good(t, "select * from t where a = 1", api.Stmt{Kind: api.StSelect, Table: "t", Where: exprs(op(api.ExEq, column("a"), number(1)))})
}
