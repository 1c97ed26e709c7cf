package show_test

import (
	"fmt"
	"math"
	"strings"
	"testing"

	"quarantine/api"
)

// P8.1: numbers

func TestNumbers(t *testing.T) {
	for n := range int64(2000) {
		expr(t, number(n), fmt.Sprint(n))
	}
	for n := int64(1); n < math.MaxInt64/10; n *= 10 {
		for _, x := range []int64{n - 1, n, n + 1, 9 * n, 10*n - 1} {
			expr(t, number(x), fmt.Sprint(x))
		}
	}
	for bit := range 63 {
		n := int64(1) << bit
		expr(t, number(n), fmt.Sprint(n))
		expr(t, number(n-1), fmt.Sprint(n-1))
	}
	expr(t, number(0), "0")
	expr(t, number(65536), "65536")
	expr(t, number(math.MaxInt64-1), "9223372036854775806")
	expr(t, number(math.MaxInt64), "9223372036854775807")
}

func TestNumbersBelowNothing(t *testing.T) {
	for _, n := range []int64{-1, -2, -9, -10, -65536, -math.MaxInt64, math.MinInt64} {
		x := number(n)
		expr(t, x, "")
		expr(t, op(api.ExNeg, x), "(-)")
		expr(t, op(api.ExNot, x), "(not )")
		expr(t, op(api.ExNeg, op(api.ExNot, x)), "(-(not ))")
		for _, b := range between {
			expr(t, op(b.op, x, number(1)), "( "+b.word+" 1)")
			expr(t, op(b.op, column("a"), x), "(a "+b.word+" )")
			expr(t, op(b.op, x, x), "( "+b.word+" )")
			expr(t, op(b.op, op(b.op, x, text("")), number(2)), "(( "+b.word+" '') "+b.word+" 2)")
		}
	}
	// Where a number is none, its sign says nothing.
	expr(t, api.Expr{Op: api.ExLit, Value: api.Value{Kind: api.Text, Int: -1, Text: "a"}}, "'a'")
	expr(t, api.Expr{Op: api.ExCol, Value: api.Value{Kind: api.Int, Int: -1}, Name: "a"}, "a")
}

// P8.1: texts

func TestTexts(t *testing.T) {
	for s, want := range map[string]string{
		"":         "''",
		"'":        "''''",
		"''":       "''''''",
		"'''":      "''''''''",
		"a":        "'a'",
		"a'b":      "'a''b'",
		"'a":       "'''a'",
		"a'":       "'a'''",
		"'a'":      "'''a'''",
		"a''b":     "'a''''b'",
		"''a'b''":  "'''''a''b'''''",
		"it's 'x'": "'it''s ''x'''",
		" ":        "' '",
		"  a  ":    "'  a  '",
		"\"":       "'\"'",
		"`":        "'`'",
		"\\":       "'\\'",
		"\\'":      "'\\'''",
		"1":        "'1'",
		"(":        "'('",
		"(-1)":     "'(-1)'",
		"a, b":     "'a, b'",
		"not a":    "'not a'",
		"%d":       "'%d'",
	} {
		expr(t, text(s), want)
		expr(t, op(api.ExEq, text(s), text(s)), "("+want+" = "+want+")")
	}
	for b := byte(32); b <= 126; b++ {
		if b != '\'' {
			expr(t, text(string(b)), "'"+string(b)+"'")
			expr(t, text("'"+string(b)+"'"), "'''"+string(b)+"'''")
		}
	}
	expr(t, text(strings.Repeat("x", api.MaxLetter)), "'"+strings.Repeat("x", api.MaxLetter)+"'")
	expr(t, text(strings.Repeat("'", api.MaxLetter)), "'"+strings.Repeat("''", api.MaxLetter)+"'")
}

func TestAllShortTexts(t *testing.T) {
	texts := []string{""}
	for range 6 {
		var longer []string
		for _, s := range texts {
			want := "'"
			for _, sign := range s {
				if want += string(sign); sign == '\'' {
					want += "'"
				}
			}
			expr(t, text(s), want+"'")
			longer = append(longer, s+"'", s+"a", s+" ")
		}
		texts = longer
	}
}

// P8.1: columns

func TestColumns(t *testing.T) {
	for _, s := range []string{"a", "t.a", "_", "_._", "a1", "t_1.b_2", "abcdefghijklmnop", "abcdefghijklmnop._0123456789_abcd"} {
		expr(t, column(s), s)
	}
	expr(t, api.Expr{Op: api.ExCol, Table: "a", Name: "a"}, "a.a")
	// What only a value has says nothing of a column.
	expr(t, api.Expr{Op: api.ExCol, Name: "a", Value: api.Value{Kind: api.Text, Text: "x"}}, "a")
	expr(t, api.Expr{Op: api.ExLit, Name: "a", Table: "t", Value: api.Value{Kind: api.Text, Text: "x"}}, "'x'")
}

// P8.1: ExNeg, ExNot

func TestNotAndMinus(t *testing.T) {
	for want, x := range map[string]api.Expr{
		"(-1)":                   op(api.ExNeg, number(1)),
		"(-0)":                   op(api.ExNeg, number(0)),
		"(-9223372036854775807)": op(api.ExNeg, number(math.MaxInt64)),
		"(-a)":                   op(api.ExNeg, column("a")),
		"(-t.a)":                 op(api.ExNeg, column("t.a")),
		"(-'')":                  op(api.ExNeg, text("")),
		"(not 1)":                op(api.ExNot, number(1)),
		"(not a)":                op(api.ExNot, column("a")),
		"(not t.a)":              op(api.ExNot, column("t.a")),
		"(not 'x')":              op(api.ExNot, text("x")),
		"(-(-1))":                op(api.ExNeg, op(api.ExNeg, number(1))),
		"(-(-(-a)))":             op(api.ExNeg, op(api.ExNeg, op(api.ExNeg, column("a")))),
		"(not (not a))":          op(api.ExNot, op(api.ExNot, column("a"))),
		"(not (not (not 1)))":    op(api.ExNot, op(api.ExNot, op(api.ExNot, number(1)))),
		"(-(not a))":             op(api.ExNeg, op(api.ExNot, column("a"))),
		"(not (-a))":             op(api.ExNot, op(api.ExNeg, column("a"))),
		"(not (-(not (-'a'))))":  op(api.ExNot, op(api.ExNeg, op(api.ExNot, op(api.ExNeg, text("a"))))),
	} {
		expr(t, x, want)
	}
}

// P8.1: two, and what stands within one another

func TestOneWordBetweenTwo(t *testing.T) {
	leaves := map[string]api.Expr{"1": number(1), "20": number(20), "'x'": text("x"), "''": text(""), "a": column("a"), "t.b": column("t.b"), "(-3)": op(api.ExNeg, number(3)), "(not c)": op(api.ExNot, column("c"))}
	for _, b := range between {
		for left, x := range leaves {
			for right, y := range leaves {
				expr(t, op(b.op, x, y), "("+left+" "+b.word+" "+right+")")
			}
		}
	}
	expr(t, op(api.ExAdd, number(1), number(2)), "(1 + 2)")
	expr(t, op(api.ExSub, number(1), op(api.ExNeg, number(2))), "(1 - (-2))")
	expr(t, op(api.ExMul, column("a"), column("t.b")), "(a * t.b)")
	expr(t, op(api.ExEq, column("a"), text("it's")), "(a = 'it''s')")
	expr(t, op(api.ExNe, number(0), number(0)), "(0 <> 0)")
	expr(t, op(api.ExLt, number(0), number(0)), "(0 < 0)")
	expr(t, op(api.ExLe, number(0), number(0)), "(0 <= 0)")
	expr(t, op(api.ExGt, number(0), number(0)), "(0 > 0)")
	expr(t, op(api.ExGe, number(0), number(0)), "(0 >= 0)")
	expr(t, op(api.ExAnd, column("a"), column("b")), "(a and b)")
	expr(t, op(api.ExOr, column("a"), column("b")), "(a or b)")
}

func TestTwoWordsBetweenThree(t *testing.T) {
	a, b, c := column("a"), number(2), text("c")
	for _, x := range between {
		for _, y := range between {
			expr(t, op(x.op, op(y.op, a, b), c), "((a "+y.word+" 2) "+x.word+" 'c')")
			expr(t, op(x.op, a, op(y.op, b, c)), "(a "+x.word+" (2 "+y.word+" 'c'))")
			expr(t, op(x.op, op(y.op, a, b), op(y.op, b, c)), "((a "+y.word+" 2) "+x.word+" (2 "+y.word+" 'c'))")
			expr(t, op(api.ExNeg, op(x.op, op(api.ExNot, a), op(y.op, b, c))), "(-((not a) "+x.word+" (2 "+y.word+" 'c')))")
			expr(t, op(api.ExNot, op(x.op, op(y.op, b, c), op(api.ExNeg, a))), "(not ((2 "+y.word+" 'c') "+x.word+" (-a)))")
		}
	}
}

// plainly tells x as the promise's words have it, put together from texts of its parts.
func plainly(x api.Expr) string {
	switch x.Op {
	case api.ExLit:
		if x.Value.Kind == api.Int {
			return fmt.Sprint(x.Value.Int)
		}
		return "'" + strings.Join(strings.Split(x.Value.Text, "'"), "''") + "'"
	case api.ExCol:
		return strings.TrimPrefix(x.Table+"."+x.Name, ".")
	case api.ExNeg:
		return fmt.Sprintf("(-%s)", plainly(x.Args[0]))
	case api.ExNot:
		return fmt.Sprintf("(not %s)", plainly(x.Args[0]))
	}
	for _, b := range between {
		if b.op == x.Op {
			return fmt.Sprintf("(%s %s %s)", plainly(x.Args[0]), b.word, plainly(x.Args[1]))
		}
	}
	panic("no such expression")
}

// all tells each expression of one word more on these.
func all(l []api.Expr) []api.Expr {
	var out []api.Expr
	for _, x := range l {
		out = append(out, op(api.ExNot, x), op(api.ExNeg, x))
		for _, y := range l {
			for _, b := range between {
				out = append(out, op(b.op, x, y))
			}
		}
	}
	return out
}

func TestAllSmallExpressions(t *testing.T) {
	leaves := exprs(number(10), text("'"), column("t.a"))
	for _, x := range all(append(all(leaves), leaves...)) {
		expr(t, x, plainly(x))
	}
}

// grown tells an expression with so many words.
func grown(d *dice, size int) api.Expr {
	leaves := exprs(number(0), number(7), number(math.MaxInt64), text(""), text("it's"), text("(a)"), column("b"), column("u.c_1"))
	switch {
	case size == 0:
		return leaves[d.next(len(leaves))]
	case d.next(4) == 0:
		return op([]int{api.ExNot, api.ExNeg}[d.next(2)], grown(d, size-1))
	}
	left := d.next(size)
	return op(between[d.next(len(between))].op, grown(d, left), grown(d, size-1-left))
}

func TestGreaterExpressions(t *testing.T) {
	d := dice(1)
	for range 20000 {
		x := grown(&d, 3+d.next(30))
		expr(t, x, plainly(x))
	}
}

// P8.1, limits: parts nested in one another as far as is promised

func TestDeepExpressions(t *testing.T) {
	const deep = 1 << 16
	minus, not, left, right := column("a"), column("a"), column("a"), column("a")
	for range deep {
		minus, not = op(api.ExNeg, minus), op(api.ExNot, not)
		left, right = op(api.ExAdd, left, number(1)), op(api.ExOr, number(1), right)
	}
	open, end := strings.Repeat("(", deep), strings.Repeat(")", deep)
	expr(t, minus, strings.Repeat("(-", deep)+"a"+end)
	expr(t, not, strings.Repeat("(not ", deep)+"a"+end)
	expr(t, left, open+"a"+strings.Repeat(" + 1)", deep))
	expr(t, right, strings.Repeat("(1 or ", deep)+"a"+end)
	stmt(t, api.Stmt{Kind: api.StDelete, Table: "t", Where: exprs(left)}, "delete from t where "+open+"a"+strings.Repeat(" + 1)", deep))
}
