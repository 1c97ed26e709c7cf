package parse_test

import (
	"math"
	"strings"
	"testing"

	"quarantine/api"
)

// where asks that s, as what a delete asks for, is this expression; and so in each other place where an expression stands.
func where(t *testing.T, s string, want api.Expr) {
	t.Helper()
	good(t, "delete from t where "+s, api.Stmt{Kind: api.StDelete, Table: "t", Where: exprs(want)})
	good(t, "select * from t where "+s, api.Stmt{Kind: api.StSelect, Table: "t", Where: exprs(want)})
	good(t, "update t set a = "+s, api.Stmt{Kind: api.StUpdate, Table: "t", Name: "a", Values: exprs(want)})
	good(t, "update t set a = 1 where "+s, api.Stmt{Kind: api.StUpdate, Table: "t", Name: "a", Values: exprs(number(1)), Where: exprs(want)})
	good(t, "insert into t values ("+s+")", api.Stmt{Kind: api.StInsert, Table: "t", Values: exprs(want)})
	good(t, "insert into t values (2, "+s+", 3)", api.Stmt{Kind: api.StInsert, Table: "t", Values: exprs(number(2), want, number(3))})
}

// P7.1: what an expression is made of

func TestValuesAndColumns(t *testing.T) {
	where(t, "0", number(0))
	where(t, "007", number(7))
	where(t, "65536", number(65536))
	where(t, "9223372036854775807", number(math.MaxInt64))
	where(t, "''", text(""))
	where(t, "''''", text("'"))
	where(t, "' a ''b'' '", text(" a 'b' "))
	where(t, "'not'", text("not"))
	where(t, "'-'", text("-"))
	where(t, "'1'", text("1"))
	where(t, "'"+strings.Repeat("x", api.MaxLetter)+"'", text(strings.Repeat("x", api.MaxLetter)))
	where(t, "a", column("a"))
	where(t, "t.a", column("t.a"))
	where(t, "t . a", column("t.a"))
	where(t, "abcdefghijklmnop._0123456789_abcd", column("abcdefghijklmnop._0123456789_abcd"))
}

func TestNotAndMinus(t *testing.T) {
	where(t, "not a", op(api.ExNot, column("a")))
	where(t, "not not a", op(api.ExNot, op(api.ExNot, column("a"))))
	where(t, "not not not 1", op(api.ExNot, op(api.ExNot, op(api.ExNot, number(1)))))
	where(t, "-a", op(api.ExNeg, column("a")))
	where(t, "--a", op(api.ExNeg, op(api.ExNeg, column("a"))))
	where(t, "- - -t.a", op(api.ExNeg, op(api.ExNeg, op(api.ExNeg, column("t.a")))))
	where(t, "-1", op(api.ExNeg, number(1)))
	where(t, "-0", op(api.ExNeg, number(0)))
	where(t, "--1", op(api.ExNeg, op(api.ExNeg, number(1))))
	where(t, "-9223372036854775807", op(api.ExNeg, number(math.MaxInt64)))
	where(t, "-'x'", op(api.ExNeg, text("x")))
	where(t, "not -1", op(api.ExNot, op(api.ExNeg, number(1))))
	where(t, "-(not 1)", op(api.ExNeg, op(api.ExNot, number(1))))
	where(t, "-(-1)", op(api.ExNeg, op(api.ExNeg, number(1))))
	where(t, "1--1", op(api.ExSub, number(1), op(api.ExNeg, number(1))))
	where(t, "1-(-1)", op(api.ExSub, number(1), op(api.ExNeg, number(1))))
	where(t, "1---1", op(api.ExSub, number(1), op(api.ExNeg, op(api.ExNeg, number(1)))))
	where(t, "-1-1", op(api.ExSub, op(api.ExNeg, number(1)), number(1)))
	where(t, "-1+1", op(api.ExAdd, op(api.ExNeg, number(1)), number(1)))
	where(t, "-1*2", op(api.ExMul, op(api.ExNeg, number(1)), number(2)))
	where(t, "1*-2", op(api.ExMul, number(1), op(api.ExNeg, number(2))))
	where(t, "-(1*2)", op(api.ExNeg, op(api.ExMul, number(1), number(2))))
	where(t, "not a and b", op(api.ExAnd, op(api.ExNot, column("a")), column("b")))
	where(t, "not a or b", op(api.ExOr, op(api.ExNot, column("a")), column("b")))
	where(t, "not (a or b)", op(api.ExNot, op(api.ExOr, column("a"), column("b"))))
	where(t, "not a = b", op(api.ExNot, op(api.ExEq, column("a"), column("b"))))
	where(t, "(not a) = b", op(api.ExEq, op(api.ExNot, column("a")), column("b")))
	where(t, "a and not b or not c", op(api.ExOr, op(api.ExAnd, column("a"), op(api.ExNot, column("b"))), op(api.ExNot, column("c"))))
}

func TestBrackets(t *testing.T) {
	where(t, "(1)", number(1))
	where(t, "((('x')))", text("x"))
	where(t, "(t.a)", column("t.a"))
	where(t, "((a)=((b)))", op(api.ExEq, column("a"), column("b")))
	where(t, "((1)+(2))*(3)", op(api.ExMul, op(api.ExAdd, number(1), number(2)), number(3)))
	where(t, "(a=b)=(c=d)", op(api.ExEq, op(api.ExEq, column("a"), column("b")), op(api.ExEq, column("c"), column("d"))))
	where(t, "(a or b) and c", op(api.ExAnd, op(api.ExOr, column("a"), column("b")), column("c")))
	where(t, "a and (b or c)", op(api.ExAnd, column("a"), op(api.ExOr, column("b"), column("c"))))
}

// P7.1: how words between two group

// between has each word that stands between two parts, what it means, and its rank: the higher one stands within the lower.
var between = []struct {
	word string
	op   int
	rank int
}{
	{"or", api.ExOr, 1}, {"and", api.ExAnd, 2},
	{"=", api.ExEq, 4}, {"<>", api.ExNe, 4}, {"<", api.ExLt, 4}, {"<=", api.ExLe, 4}, {">", api.ExGt, 4}, {">=", api.ExGe, 4},
	{"+", api.ExAdd, 5}, {"-", api.ExSub, 5}, {"*", api.ExMul, 6},
}

func TestOneWordBetweenTwo(t *testing.T) {
	for _, x := range between {
		where(t, "a "+x.word+" 1", op(x.op, column("a"), number(1)))
		where(t, "1 "+x.word+" t.a", op(x.op, number(1), column("t.a")))
		where(t, "(a "+x.word+" 'y')", op(x.op, column("a"), text("y")))
		where(t, "(1)"+x.word+"(2)", op(x.op, number(1), number(2)))
	}
}

func TestTwoWordsBetweenThree(t *testing.T) {
	a, b, c := column("a"), column("b"), column("c")
	for _, x := range between {
		for _, y := range between {
			s := "a " + x.word + " b " + y.word + " c"
			switch {
			// Of two comparisons in a row the second cannot stand.
			case x.rank == 4 && y.rank == 4:
				bad(t, "delete from t where "+s, len("delete from t where a  b ")+len(x.word), api.ErrParse)
			case x.rank >= y.rank:
				where(t, s, op(y.op, op(x.op, a, b), c))
			default:
				where(t, s, op(x.op, a, op(y.op, b, c)))
			}
			where(t, "(a "+x.word+" b) "+y.word+" c", op(y.op, op(x.op, a, b), c))
			where(t, "a "+x.word+" (b "+y.word+" c)", op(x.op, a, op(y.op, b, c)))
		}
	}
}

func TestLongRowsGroupFromTheLeft(t *testing.T) {
	for _, x := range between {
		if x.rank == 4 {
			continue
		}
		s, want := "1", number(1)
		for n := int64(2); n <= 20; n++ {
			s += " " + x.word + " " + string('0'+rune(n%10))
			want = op(x.op, want, number(n%10))
		}
		where(t, s, want)
	}
}

func TestASecondComparison(t *testing.T) {
	for _, x := range between[2:8] {
		for _, y := range between[2:8] {
			for _, s := range []string{"a", "1+1", "-1", "(a=b)", "not a", "a and b", "1 or 'x'"} {
				ahead := "update t set a = " + s + x.word + "2*b "
				bad(t, ahead+y.word+" c", len(ahead), api.ErrParse)
				bad(t, ahead+y.word, len(ahead), api.ErrParse)
			}
			// One on each side of a word that stands lower is not in a row.
			where(t, "a"+x.word+"b and c"+y.word+"d", op(api.ExAnd, op(x.op, column("a"), column("b")), op(y.op, column("c"), column("d"))))
			where(t, "a"+x.word+"b or not c"+y.word+"d", op(api.ExOr, op(x.op, column("a"), column("b")), op(api.ExNot, op(y.op, column("c"), column("d")))))
		}
	}
}

// P7.1: all small expressions, with all brackets and with no more than are wanted

// rank tells that of x's own word; of what has none, more than any.
func rank(x api.Expr) int {
	switch x.Op {
	case api.ExNot:
		return 3
	case api.ExNeg:
		return 7
	}
	for _, b := range between {
		if b.op == x.Op {
			return b.rank
		}
	}
	return 8
}

func sign(op int) string {
	for _, b := range between {
		if b.op == op {
			return b.word
		}
	}
	return ""
}

// shown tells x as a text, in brackets if its rank is below least, or always.
func shown(x api.Expr, least int, always bool) string {
	s, own := "", rank(x)
	left, right := own, own+1
	if own == 4 {
		left = 5
	}
	switch {
	case x.Op == api.ExCol && x.Table != "":
		s = x.Table + "." + x.Name
	case x.Op == api.ExCol:
		s = x.Name
	case x.Value.Kind == api.Int:
		s = string('0' + rune(x.Value.Int))
	case x.Value.Kind == api.Text:
		s = "'" + x.Value.Text + "'"
	case x.Op == api.ExNot:
		s = "not " + shown(x.Args[0], own, always)
	case x.Op == api.ExNeg:
		s = "-" + shown(x.Args[0], own, always)
	default:
		s = shown(x.Args[0], left, always) + " " + sign(x.Op) + " " + shown(x.Args[1], right, always)
	}
	if always || own < least {
		return "(" + s + ")"
	}
	return s
}

// all tells each expression of one word more on these.
func all(l []api.Expr) []api.Expr {
	var out []api.Expr
	for _, x := range l {
		out = append(out, op(api.ExNot, x), op(api.ExNeg, x))
		for _, y := range l {
			for _, b := range between {
				out = append(out, op(b.op, x, y))
			}
		}
	}
	return out
}

func TestAllSmallExpressions(t *testing.T) {
	leaves := exprs(number(1), column("t.a"))
	small := append(all(leaves), leaves...)
	for _, x := range all(small) {
		for _, s := range []string{shown(x, 0, false), shown(x, 0, true)} {
			good(t, "delete from t where "+s, api.Stmt{Kind: api.StDelete, Table: "t", Where: exprs(x)})
		}
	}
}

func TestGreaterExpressions(t *testing.T) {
	// A row of numbers that looks like chance, and is the same each time.
	state := uint32(1)
	next := func(n int) int {
		state = state*1664525 + 1013904223
		return int(state>>16) % n
	}
	var grown func(size int) api.Expr
	grown = func(size int) api.Expr {
		leaves := exprs(number(7), text("x"), column("b"), column("u.c"))
		switch {
		case size == 0:
			return leaves[next(len(leaves))]
		case next(4) == 0:
			return op([]int{api.ExNot, api.ExNeg}[next(2)], grown(size-1))
		}
		left := next(size)
		return op(between[next(len(between))].op, grown(left), grown(size-1-left))
	}
	for range 20000 {
		x := grown(3 + next(10))
		for _, s := range []string{shown(x, 0, false), shown(x, 0, true)} {
			good(t, "delete from t where "+s, api.Stmt{Kind: api.StDelete, Table: "t", Where: exprs(x)})
		}
	}
}
