package rel_test

import (
	"fmt"
	"slices"
	"strings"
	"testing"

	"quarantine/api"
	"quarantine/parse"
	"quarantine/rel"
	"quarantine/typed"
)

func whole(n int64) api.Value { return api.Value{Kind: api.Int, Int: n} }

func written(s string) api.Value { return api.Value{Kind: api.Text, Text: s} }

func ints(l ...int64) []api.Value {
	var out []api.Value
	for _, n := range l {
		out = append(out, whole(n))
	}
	return out
}

// downward tells a row of one value for each.
func downward(l ...int64) [][]api.Value {
	var out [][]api.Value
	for _, n := range l {
		out = append(out, ints(n))
	}
	return out
}

// table tells a table of these columns, each a name and a kind: "k int".
func table(name string, cols ...string) api.Table {
	t := api.Table{Name: name}
	for _, c := range cols {
		name, kind, _ := strings.Cut(c, " ")
		t.Cols = append(t.Cols, api.Col{Name: name, Kind: map[string]int{"int": api.Int, "text": api.Text}[kind]})
	}
	return t
}

// town is two tables: k is a column of both.
func town() (left, right api.Table) {
	return table("t", "k int", "x text", "a int"), table("u", "k int", "r int", "y text")
}

// people are their rows.
func people() (lrows, rrows [][]api.Value) {
	lrows = [][]api.Value{
		{whole(1), written("b"), whole(5)},
		{whole(2), written("a"), whole(3)},
		{whole(3), written("b"), whole(5)},
		{whole(4), written(""), whole(-1)},
	}
	rrows = [][]api.Value{
		{whole(7), whole(3), written("b")},
		{whole(8), whole(1), written("a")},
		{whole(9), whole(3), written("b")},
		{whole(3), whole(6), written("c")},
	}
	return lrows, rrows
}

// shown tells rows as a text that is read more easily: each row in brackets, texts in quotes.
func shown(rows [][]api.Value) string {
	var out []string
	for _, r := range rows {
		var words []string
		for _, v := range r {
			switch {
			case v == whole(v.Int):
				words = append(words, fmt.Sprint(v.Int))
			case v == written(v.Text):
				words = append(words, "'"+v.Text+"'")
			default:
				words = append(words, fmt.Sprintf("%+v", v))
			}
		}
		out = append(out, "["+strings.Join(words, " ")+"]")
	}
	return strings.Join(out, " ")
}

// brief tells x as a text that is not too long to be read.
func brief(x any) string {
	s := strings.ToValidUTF8(fmt.Sprintf("%+v", x), "?")
	return s[:min(len(s), 1000)]
}

// given is what is handed in to Select.
type given struct {
	St           api.Stmt
	Left, Right  api.Table
	Lrows, Rrows [][]api.Value
}

func (g given) selected() ([][]api.Value, api.Errno) {
	return rel.Select(g.St, g.Left, g.Right, g.Lrows, g.Rrows)
}

// schema tells that the tables are what there is.
func (g given) schema() api.Schema {
	return api.Schema{Tables: []api.Table{g.Left, g.Right}}
}

// stmt tells the statement of a text.
func stmt(t *testing.T, text string) api.Stmt {
	t.Helper()
	st, at, e := parse.Parse(text)
	if e != api.OK {
		t.Fatalf("Parse of %q is %d at %d", text, e, at)
	}
	return st
}

// where tells the expression of a text.
func where(t *testing.T, text string) []api.Expr {
	t.Helper()
	return stmt(t, "delete from t where "+text).Where
}

// asking tells the select of a text, over the town and its people, and asks that it is one that may be done.
func asking(t *testing.T, text string) given {
	t.Helper()
	var g given
	g.St = stmt(t, text)
	g.Left, g.Right = town()
	g.Lrows, g.Rrows = people()
	if e := typed.Check(g.schema(), g.St); e != api.OK {
		t.Fatalf("Check of %q is %d", text, e)
	}
	return g
}

// comes asks for what g comes to, as shown has it.
func (g given) comes(t *testing.T, want string) {
	t.Helper()
	if got, e := g.selected(); shown(got) != want || e != api.OK {
		t.Errorf("%s comes to %s, %d, not %s", brief(g), shown(got), e, want)
	}
}

// fails asks for this error of g, and for nothing beside it (R2).
func (g given) fails(t *testing.T, want api.Errno) {
	t.Helper()
	if got, e := g.selected(); len(got) != 0 || e != want {
		t.Errorf("%s comes to %s, %d, not to %d", brief(g), shown(got), e, want)
	}
}

// come asks for what each text comes to, over the town and its people.
func come(t *testing.T, want map[string]string) {
	t.Helper()
	for text, rows := range want {
		g := asking(t, text)
		if got, e := g.selected(); shown(got) != rows || e != api.OK {
			t.Errorf("%q comes to %s, %d, not %s", text, shown(got), e, rows)
		}
	}
}

// dice is a row of numbers that looks like chance, and is the same each time.
type dice uint32

func (d *dice) next(n int) int {
	*d = *d*1664525 + 1013904223
	return int(*d>>16) % n
}

func pick[T any](d *dice, l ...T) T { return l[d.next(len(l))] }

// mixed tells l in another order.
func mixed[T any](d *dice, l []T) []T {
	out := slices.Clone(l)
	for i := range out {
		j := i + d.next(len(out)-i)
		out[i], out[j] = out[j], out[i]
	}
	return out
}
