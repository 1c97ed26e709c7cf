package eval_test

import (
	"math"
	"math/big"
	"slices"
	"strings"
	"testing"

	"quarantine/api"
)

// edges are numbers beside which something changes.
func edges() []int64 {
	l := []int64{math.MinInt64, math.MinInt64 + 1, math.MaxInt64 - 1, math.MaxInt64, math.MaxInt64 / 2, math.MaxInt64/2 + 1, math.MinInt64 / 2, math.MinInt64/2 - 1, 3037000499, 3037000500, -3037000500}
	for n := range int64(7) {
		l = append(l, n-3)
	}
	return l
}

// bigs are the ways of two numbers, over numbers without bounds.
func bigs() map[int]func(a, b *big.Int) *big.Int {
	return map[int]func(a, b *big.Int) *big.Int{
		api.ExAdd: func(a, b *big.Int) *big.Int { return new(big.Int).Add(a, b) },
		api.ExSub: func(a, b *big.Int) *big.Int { return new(big.Int).Sub(a, b) },
		api.ExMul: func(a, b *big.Int) *big.Int { return new(big.Int).Mul(a, b) },
	}
}

// comesToBig asks for n, or for ErrOverflow, if it is none that there is.
func comesToBig(t *testing.T, e api.Expr, n *big.Int) {
	t.Helper()
	if n.IsInt64() {
		comes(t, e, whole(n.Int64()))
	} else {
		fails(t, e, api.ErrOverflow)
	}
}

// P11.1: numbers by num

func TestNumbers(t *testing.T) {
	for _, a := range edges() {
		comesToBig(t, op(api.ExNeg, number(a)), new(big.Int).Neg(big.NewInt(a)))
		for _, b := range edges() {
			for o, way := range bigs() {
				comesToBig(t, op(o, number(a), number(b)), way(big.NewInt(a), big.NewInt(b)))
			}
		}
	}
}

func TestNumbersAtTheirEdges(t *testing.T) {
	const least, greatest = math.MinInt64, math.MaxInt64
	for _, x := range []struct {
		op   int
		a, b int64
		want int64
	}{
		{api.ExAdd, greatest, 0, greatest}, {api.ExAdd, least, 0, least}, {api.ExAdd, greatest, least, -1}, {api.ExAdd, -1, greatest, greatest - 1}, {api.ExAdd, 1, least, least + 1},
		{api.ExSub, greatest, 0, greatest}, {api.ExSub, least, least, 0}, {api.ExSub, -1, least, greatest}, {api.ExSub, -1, greatest, least}, {api.ExSub, 0, greatest, -greatest}, {api.ExSub, 1, 3, -2},
		{api.ExMul, greatest, -1, -greatest}, {api.ExMul, least, 1, least}, {api.ExMul, 1, least, least}, {api.ExMul, least, 0, 0}, {api.ExMul, 0, greatest, 0}, {api.ExMul, -1, -1, 1},
	} {
		comes(t, op(x.op, number(x.a), number(x.b)), whole(x.want))
	}
	for _, x := range []struct {
		op   int
		a, b int64
	}{
		{api.ExAdd, greatest, 1}, {api.ExAdd, 1, greatest}, {api.ExAdd, least, -1}, {api.ExAdd, -1, least}, {api.ExAdd, greatest, greatest}, {api.ExAdd, least, least},
		{api.ExSub, greatest, -1}, {api.ExSub, least, 1}, {api.ExSub, 0, least}, {api.ExSub, 1, least}, {api.ExSub, greatest, least}, {api.ExSub, least, greatest},
		{api.ExMul, least, -1}, {api.ExMul, -1, least}, {api.ExMul, greatest, 2}, {api.ExMul, 2, least}, {api.ExMul, greatest, greatest}, {api.ExMul, least, least},
	} {
		fails(t, op(x.op, number(x.a), number(x.b)), api.ErrOverflow)
	}
	comes(t, op(api.ExNeg, number(greatest)), whole(-greatest))
	comes(t, op(api.ExNeg, number(-greatest)), whole(greatest))
	comes(t, op(api.ExNeg, number(0)), whole(0))
	fails(t, op(api.ExNeg, number(least)), api.ErrOverflow)
}

// What runs over on the way does so, though the whole would come to a number.
func TestWhatRunsOverOnTheWay(t *testing.T) {
	fails(t, op(api.ExSub, runsOver(), number(1)), api.ErrOverflow)
	fails(t, op(api.ExMul, number(0), runsOver()), api.ErrOverflow)
	fails(t, op(api.ExMul, runsOver(), number(0)), api.ErrOverflow)
	fails(t, op(api.ExNeg, op(api.ExNeg, number(math.MinInt64))), api.ErrOverflow)
	comes(t, op(api.ExAdd, number(math.MaxInt64), op(api.ExSub, number(1), number(1))), whole(math.MaxInt64))
	fails(t, op(api.ExSub, op(api.ExAdd, number(math.MaxInt64), number(1)), number(1)), api.ErrOverflow)
	for _, o := range compares {
		fails(t, op(o, runsOver(), number(1)), api.ErrOverflow)
		fails(t, op(o, number(1), runsOver()), api.ErrOverflow)
		fails(t, op(api.ExNot, op(o, number(1), runsOver())), api.ErrOverflow)
	}
}

// holdsOf tells whether op is said of two that stand to each other so, by the signs that the document has for it.
func holdsOf(o, order int) bool {
	is := map[int]string{api.ExEq: "=", api.ExNe: "<>", api.ExLt: "<", api.ExLe: "<=", api.ExGt: ">", api.ExGe: ">="}[o]
	return strings.Contains(is, map[int]string{-1: "<", 0: "=", 1: ">"}[order])
}

// P11.1: comparisons by value.Compare: Bool with Int 1 or 0

func TestComparisonsOfNumbers(t *testing.T) {
	for _, a := range edges() {
		for _, b := range edges() {
			for _, o := range compares {
				comes(t, op(o, number(a), number(b)), truth(holdsOf(o, big.NewInt(a).Cmp(big.NewInt(b)))))
			}
		}
	}
}

func TestComparisonsOfTexts(t *testing.T) {
	// In the order in which they stand: byte by byte, a beginning first.
	l := []string{"", " ", "''", "-1", "10", "9", "A", "Z", "a", "a ", "aa", "ab", "b", "ba", "~", "~~", strings.Repeat("~", api.MaxLetter)}
	for i, a := range l {
		for j, b := range l {
			for _, o := range compares {
				comes(t, op(o, text(a), text(b)), truth(holdsOf(o, big.NewInt(int64(i)).Cmp(big.NewInt(int64(j))))))
			}
		}
	}
}

func TestEachComparison(t *testing.T) {
	for o, want := range map[int][3]bool{
		api.ExEq: {false, true, false}, api.ExNe: {true, false, true},
		api.ExLt: {true, false, false}, api.ExLe: {true, true, false},
		api.ExGt: {false, false, true}, api.ExGe: {false, true, true},
	} {
		for i, x := range [][2]api.Expr{{number(-2), number(-1)}, {number(-2), number(-2)}, {number(-1), number(-2)}} {
			comes(t, op(o, x[0], x[1]), truth(want[i]))
		}
		for i, x := range [][2]api.Expr{{text(""), text("a")}, {text(""), text("")}, {text("a"), text("")}} {
			comes(t, op(o, x[0], x[1]), truth(want[i]))
		}
		for i, x := range [][2]api.Expr{{columnOf("t", "both"), column("a")}, {column("a"), number(3)}, {column("a"), columnOf("t", "both")}} {
			comes(t, op(o, x[0], x[1]), truth(want[i]))
		}
		for i, x := range [][2]api.Expr{{column("b"), column("x")}, {column("x"), text("it's")}, {column("x"), column("b")}} {
			comes(t, op(o, x[0], x[1]), truth(want[i]))
		}
	}
}

// P11.1: not of both, and and or of all four pairs

func TestTruths(t *testing.T) {
	as := map[bool][]api.Expr{
		true:  exprs(lit(truth(true)), yes(), column("flag"), op(api.ExNot, no())),
		false: exprs(lit(truth(false)), no(), op(api.ExNot, column("flag")), op(api.ExNot, yes())),
	}
	for a, lefts := range as {
		for _, left := range lefts {
			comes(t, op(api.ExNot, left), truth(!a))
			comes(t, op(api.ExNot, op(api.ExNot, left)), truth(a))
			for b, rights := range as {
				for _, right := range rights {
					comes(t, op(api.ExAnd, left, right), truth(a && b))
					comes(t, op(api.ExOr, left, right), truth(a || b))
				}
			}
		}
	}
}

// What a way does not have says nothing.
func TestWaysWithOtherFields(t *testing.T) {
	for o, want := range map[int]api.Value{api.ExAdd: whole(-4), api.ExSub: whole(10), api.ExMul: whole(-21), api.ExEq: truth(false), api.ExNe: truth(true), api.ExLt: truth(false), api.ExLe: truth(false), api.ExGt: truth(true), api.ExGe: truth(true)} {
		e := op(o, column("a"), columnOf("t", "both"))
		e.Value, e.Table, e.Name = written("a"), "none", "none"
		comes(t, e, want)
	}
	for o, want := range map[int]api.Value{api.ExAnd: truth(false), api.ExOr: truth(true)} {
		e := op(o, yes(), no())
		e.Value, e.Table, e.Name = written("a"), "none", "none"
		comes(t, e, want)
	}
}

// The texts of parse (7), over columns

func TestTexts(t *testing.T) {
	for s, want := range map[string]api.Value{
		"a":                            whole(3),
		"-a":                           whole(-3),
		"a - 1 - 1":                    whole(1),
		"a - (1 - 1)":                  whole(3),
		"a + 2 * t.both":               whole(-11),
		"(a + 2) * t.both":             whole(-35),
		"-9223372036854775807 - 1":     whole(math.MinInt64),
		"-(-a)":                        whole(3),
		"x":                            written("it's"),
		"u.both":                       written(""),
		"'it''s'":                      written("it's"),
		"x = 'it''s'":                  truth(true),
		"x < b":                        truth(false),
		"u.both < b and not b < ''":    truth(true),
		"a = 3 or a = 4 and a = 5":     truth(true),
		"(a = 3 or a = 4) and a = 5":   truth(false),
		"not a = 3 and a = 4":          truth(false),
		"not (a = 3 and a = 4)":        truth(true),
		"a * a * a = 27 and a <> -a":   truth(true),
		"t.both + 10 = a and a >= 3":   truth(true),
		"a <= 2 or b > 'a' and flag":   truth(true),
		"not flag or 1 + 1 = 3":        truth(false),
		"b >= 'b' and b <= 'b'":        truth(true),
		"'' = u.both and '' <> b":      truth(true),
		"a < 9223372036854775807":      truth(true),
		"-9223372036854775807 > a":     truth(false),
		"a - a = 0 * 5 and 0 - 7 <> 7": truth(true),
	} {
		comes(t, where(t, s), want)
	}
}

// The chapter's example

func TestExample(t *testing.T) {
	comes(t, where(t, "1 = 2 and 9223372036854775807 + 1 = 0"), truth(false))
	comes(t, where(t, "1 = 1 or 9223372036854775807 + 1 = 0"), truth(true))
	fails(t, where(t, "9223372036854775807 + 1 = 0 and 1 = 2"), api.ErrOverflow)
	fails(t, where(t, "1 = 1 and 9223372036854775807 + 1 = 0"), api.ErrOverflow)
}

// Deep expressions: as deep as is promised

func TestDeepExpressions(t *testing.T) {
	const deep = 1 << 16
	negs, nots, lefts, rights, all, any := column("a"), yes(), number(1), number(1), yes(), no()
	behindAll, behindAny := yes(), no()
	for range deep - 3 {
		negs, nots = op(api.ExNeg, negs), op(api.ExNot, nots)
		lefts, rights = op(api.ExAdd, lefts, number(2)), op(api.ExSub, number(1), rights)
		all, any = op(api.ExAnd, all, yes()), op(api.ExOr, any, no())
		behindAll, behindAny = op(api.ExAnd, yes(), behindAll), op(api.ExOr, no(), behindAny)
	}
	comes(t, negs, whole(-3))
	comes(t, op(api.ExNeg, negs), whole(3))
	comes(t, nots, truth(false))
	comes(t, op(api.ExNot, nots), truth(true))
	comes(t, lefts, whole(2*(deep-3)+1))
	comes(t, rights, whole(0))
	comes(t, op(api.ExSub, number(1), rights), whole(1))
	for _, e := range exprs(all, behindAll) {
		comes(t, e, truth(true))
	}
	for _, e := range exprs(any, behindAny) {
		comes(t, e, truth(false))
	}
	for _, x := range wrong() {
		deepest, behind := x.e, asTruth(x.e)
		for range deep - 3 {
			deepest, behind = op(api.ExSub, number(1), deepest), op(api.ExAnd, yes(), behind)
		}
		fails(t, deepest, x.err)
		fails(t, behind, x.err)
		comes(t, op(api.ExAnd, no(), behind), truth(false))
		comes(t, op(api.ExOr, yes(), behind), truth(true))
	}
}

// Wide ones: each part is come to once, so that the whole ends soon.
func TestWideExpressions(t *testing.T) {
	sum, both := number(1), yes()
	for range 16 {
		sum, both = op(api.ExAdd, sum, sum), op(api.ExAnd, both, op(api.ExOr, no(), both))
	}
	comes(t, sum, whole(1<<16))
	comes(t, both, truth(true))
	many := slices.Repeat(exprs(number(1)), 1<<17)
	fails(t, op(api.ExAdd, many...), api.ErrArg)
}
