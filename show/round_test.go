package show_test

import (
	"fmt"
	"reflect"
	"slices"
	"strings"
	"testing"

	"quarantine/api"
	"quarantine/lex"
	"quarantine/parse"
	"quarantine/show"
)

// spelt tells a word as it stands in a text.
func spelt(w api.Token) string {
	switch w.Kind {
	case api.TokNumber:
		return fmt.Sprint(w.Int)
	case api.TokText:
		return "'" + strings.ReplaceAll(w.Text, "'", "''") + "'"
	}
	return w.Text
}

// apart tells whether a space stands between words[i-1] and words[i], as the promise says it of words that stand in brackets as Expr has them.
func apart(words []api.Token, i int) bool {
	is := func(i int, l ...string) bool {
		return i >= 0 && (words[i].Kind == api.TokSign || words[i].Kind == api.TokWord) && slices.Contains(l, words[i].Text)
	}
	switch {
	case is(i-1, "(", ".") || is(i, ")", ",", "."):
		return false
	case is(i, "("):
		// No expression has a bracket behind a name.
		return words[i-1].Kind != api.TokName && !is(i-1, "values", "count", "sum", "min", "max") && !(is(i-1, "-") && is(i-2, "("))
	case is(i-1, "-"):
		return !is(i-2, "(")
	}
	return true
}

// rejoined tells the words of s with spaces where the promise has them.
func rejoined(t *testing.T, s string) string {
	t.Helper()
	var out strings.Builder
	words, at, e := lex.Lex(s)
	if e != api.OK {
		t.Fatalf("%q is shown, of which lex says %d at %d", s, e, at)
	}
	for i, w := range words[:len(words)-1] {
		if i > 0 && apart(words, i) {
			out.WriteByte(' ')
		}
		out.WriteString(spelt(w))
	}
	return out.String()
}

// depth tells how many "not", unary "-" and "(" of x's text are within one another.
func depth(x api.Expr) int {
	deepest := 0
	for _, y := range x.Args {
		deepest = max(deepest, depth(y))
	}
	switch x.Op {
	case api.ExLit, api.ExCol:
		return 0
	case api.ExNeg, api.ExNot:
		return deepest + 2
	}
	return deepest + 1
}

func depthOf(st api.Stmt) int {
	deepest := 0
	for _, x := range slices.Concat(st.Values, st.Where) {
		deepest = max(deepest, depth(x))
	}
	for _, x := range st.Inner {
		deepest = max(deepest, depthOf(x))
	}
	return deepest
}

// round asks that what is shown of a statement that Parse makes is parsed as it was, and shown again the same, where it may be.
func round(t *testing.T, st api.Stmt) {
	t.Helper()
	s := show.Show(st)
	again, at, e := parse.Parse(s)
	if len(s) > api.MaxText {
		if e != api.ErrLong {
			t.Fatalf("Parse(%q) is %d at %d", s, e, at)
		}
		return
	}
	if want := rejoined(t, s); s != want {
		t.Fatalf("%q is shown, not %q", s, want)
	}
	switch {
	case depthOf(st) > api.MaxNest:
		if e != api.ErrDeep {
			t.Fatalf("Parse(%q) is %d at %d", s, e, at)
		}
	case e != api.OK:
		t.Fatalf("Parse(%q) is %d at %d, of a text that is shown", s, e, at)
	case !reflect.DeepEqual(again, st):
		t.Fatalf("Parse(%q) is %+v, not %+v, of which it is shown", s, again, st)
	case show.Show(again) != s:
		t.Fatalf("%q is shown again as %q", s, show.Show(again))
	}
}

// parsed asks that s is a statement.
func parsed(t *testing.T, s string) api.Stmt {
	t.Helper()
	st, at, e := parse.Parse(s)
	if e != api.OK {
		t.Fatalf("Parse(%q) is %d at %d", s, e, at)
	}
	return st
}

// What follows: what is shown is parsed as it was

func TestSamplesGoRound(t *testing.T) {
	for _, s := range samples() {
		if len(s.want) <= api.MaxText {
			st := parsed(t, s.want)
			stmt(t, st, s.want)
			round(t, st)
		}
	}
}

// A text may have other spaces, other brackets and other digits than the one that is shown.
func TestTextsThatAreShownOtherwise(t *testing.T) {
	for s, want := range map[string]string{
		"delete from t where a=1 and not b<2":            "delete from t where ((a = 1) and (not (b < 2)))",
		"  raise   1,2  ":                                "raise 1, 2",
		"raise 007 , 0":                                  "raise 7, 0",
		"insert into t values(-1*2)":                     "insert into t values(((-1) * 2))",
		"insert into t values ( 1 , 'a' )":               "insert into t values(1, 'a')",
		"insert into t values((1))":                      "insert into t values(1)",
		"insert into t values(--1,not not a)":            "insert into t values((-(-1)), (not (not a)))",
		"insert into t values(1-2-3,1-(2-3))":            "insert into t values(((1 - 2) - 3), (1 - (2 - 3)))",
		"create table t ( k int,x text ref u )":          "create table t(k int, x text ref u)",
		"create index on t ( x )":                        "create index on t(x)",
		"create view v strip 5,1 as select*from t":       "create view v strip 5, 1 as select * from t",
		"create closure c strip as update t set a=(b)":   "create closure c strip as update t set a = b",
		"select count ( * ),sum( t . a ) , b from t":     "select count(*), sum(t.a), b from t",
		"select*from t join u on t . a=u.b where(((a)))": "select * from t join u on t.a = u.b where a",
		"select a from t order by t . a desc":            "select a from t order by t.a desc",
		"update t set a=a*2+1 where a<>b or a<=b":        "update t set a = ((a * 2) + 1) where ((a <> b) or (a <= b))",
		"delete from t where a+b*c>=-d and e or f":       "delete from t where ((((a + (b * c)) >= (-d)) and e) or f)",
		"delete from t where not a = b":                  "delete from t where (not (a = b))",
		"delete from t where (not a) = b":                "delete from t where ((not a) = b)",
	} {
		st := parsed(t, s)
		stmt(t, st, want)
		round(t, st)
	}
}

// loose tells x as a text with few brackets and as few spaces as may be.
func loose(x api.Expr) string {
	inner := func(x api.Expr) string {
		if len(x.Args) == 0 {
			return loose(x)
		}
		return "(" + loose(x) + ")"
	}
	switch x.Op {
	case api.ExLit, api.ExCol:
		return plainly(x)
	case api.ExNeg:
		return "-" + inner(x.Args[0])
	case api.ExNot:
		return "not " + inner(x.Args[0])
	}
	for _, b := range between {
		if b.op == x.Op {
			return inner(x.Args[0]) + " " + b.word + " " + inner(x.Args[1])
		}
	}
	panic("no such expression")
}

func TestGreaterExpressionsGoRound(t *testing.T) {
	d := dice(2)
	for range 5000 {
		x, y := grown(&d, d.next(16)), grown(&d, d.next(6))
		for _, f := range []struct {
			text string
			want string
		}{
			{"delete from t where " + loose(x), "delete from t where " + plainly(x)},
			{"insert into t values(" + loose(x) + "," + loose(y) + ")", "insert into t values(" + plainly(x) + ", " + plainly(y) + ")"},
			{"update t set a=" + loose(y) + " where " + loose(x), "update t set a = " + plainly(y) + " where " + plainly(x)},
			{"create view v strip as select * from t where " + loose(x) + " order by a", "create view v strip as select * from t where " + plainly(x) + " order by a"},
		} {
			if len(f.text) <= api.MaxText {
				st := parsed(t, f.text)
				stmt(t, st, f.want)
				round(t, st)
			}
		}
	}
}

// What is too long or too deep by its brackets is shown all the same.
func TestAtTheBounds(t *testing.T) {
	for n := range api.MaxNest + 1 {
		for _, word := range []string{"-", "not "} {
			round(t, parsed(t, "delete from t where "+strings.Repeat(word, n)+"1"))
			round(t, parsed(t, "update t set a = "+strings.Repeat(word, n)+"1"))
		}
	}
	for n := range 180 {
		round(t, parsed(t, "delete from t where 1"+strings.Repeat("+1", n)))
		round(t, parsed(t, "insert into t values(1"+strings.Repeat(",1", n)+")"))
	}
	// Each "-" stands in brackets of its own: half as many as may be parsed go round.
	half := strings.Repeat("-", api.MaxNest/2)
	shown := "delete from t where " + strings.Repeat("(-", api.MaxNest/2) + "1" + strings.Repeat(")", api.MaxNest/2)
	stmt(t, parsed(t, "delete from t where "+half+"1"), shown)
	stmt(t, parsed(t, shown), shown)
	for _, s := range []string{half + "-1", half + "(1+1)", "1+" + half + "1"} {
		if _, _, e := parse.Parse(show.Show(parsed(t, "delete from t where "+s))); e != api.ErrDeep {
			t.Errorf("what is shown of %q is parsed with %d", s, e)
		}
	}
	// Just as long as may be, and one byte longer.
	ahead := "insert into t values(" + strings.Repeat("1, ", 122)
	for _, size := range []int{api.MaxText - 1, api.MaxText, api.MaxText + 1, api.MaxText + 2} {
		want := ahead + strings.Repeat("2", size-len(ahead)-1) + ")"
		st := parsed(t, strings.ReplaceAll(want, ", ", ","))
		stmt(t, st, want)
		if _, _, e := parse.Parse(want); (e == api.OK) != (size <= api.MaxText) {
			t.Errorf("%d bytes are parsed with %d", size, e)
		}
		round(t, st)
	}
}

func FuzzShow(f *testing.F) {
	for _, s := range slices.Concat(tables(), changes(), others()) {
		f.Add(s.want)
	}
	f.Fuzz(func(t *testing.T, s string) {
		if st, _, e := parse.Parse(s); e == api.OK {
			round(t, st)
		}
	})
}
