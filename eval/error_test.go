package eval_test

import (
	"slices"
	"testing"

	"quarantine/api"
)

// P11.1: Args from the left, each one's error first

func TestWhichErrorOfArgs(t *testing.T) {
	for _, x := range wrong() {
		for _, o := range ofOne {
			fails(t, op(o, x.e), x.err)
		}
		for _, o := range slices.Concat(sums, compares) {
			for _, y := range wrong() {
				fails(t, op(o, x.e, y.e), x.err)
				// All of the left one is looked at first, however deep it lies.
				fails(t, op(o, op(api.ExNeg, op(api.ExSub, number(1), x.e)), y.e), x.err)
				fails(t, op(o, op(api.ExNeg, op(api.ExSub, x.e, y.e)), y.e), x.err)
			}
			// The one that has none does not hide the other one's, whether it fits or not.
			for _, e := range exprs(number(1), text("a"), column("a"), yes(), lit(api.Value{})) {
				fails(t, op(o, x.e, e), x.err)
				fails(t, op(o, e, x.e), x.err)
			}
		}
		for _, o := range []int{api.ExAnd, api.ExOr} {
			for _, y := range wrong() {
				fails(t, op(o, asTruth(x.e), asTruth(y.e)), x.err)
			}
			fails(t, op(o, asTruth(x.e), yes()), x.err)
			fails(t, op(o, asTruth(x.e), no()), x.err)
		}
	}
}

// P11.1: ExAnd, ExOr: the second is not looked at, where the first tells all

func TestWhatIsNotLookedAt(t *testing.T) {
	zeros := exprs(no(), lit(truth(false)), op(api.ExNot, column("flag")), op(api.ExAnd, yes(), no()), op(api.ExOr, no(), no()))
	ones := exprs(yes(), lit(truth(true)), column("flag"), op(api.ExAnd, yes(), yes()), op(api.ExOr, no(), yes()))
	for _, x := range wrong() {
		// As a number, too, what is not looked at says nothing.
		for _, e := range exprs(asTruth(x.e), x.e, op(api.ExNot, asTruth(x.e))) {
			for _, zero := range zeros {
				comes(t, op(api.ExAnd, zero, e), truth(false))
				comes(t, op(api.ExNot, op(api.ExAnd, zero, e)), truth(true))
				fails(t, op(api.ExOr, zero, e), x.err)
				fails(t, op(api.ExNot, op(api.ExOr, zero, e)), x.err)
			}
			for _, one := range ones {
				comes(t, op(api.ExOr, one, e), truth(true))
				comes(t, op(api.ExNot, op(api.ExOr, one, e)), truth(false))
				fails(t, op(api.ExAnd, one, e), x.err)
				fails(t, op(api.ExNot, op(api.ExAnd, one, e)), x.err)
			}
		}
		// The first is always looked at, whatever the second would say.
		for _, second := range exprs(yes(), no()) {
			fails(t, op(api.ExAnd, asTruth(x.e), second), x.err)
			fails(t, op(api.ExOr, asTruth(x.e), second), x.err)
		}
	}
}

// One that is not looked at lies within others, which go on behind it.
func TestWhatIsNotLookedAtWithinOthers(t *testing.T) {
	for s, want := range map[string]api.Value{
		"(a = 4 and 9223372036854775807 + a = 0) or a = 3":                                     truth(true),
		"(a = 3 or 9223372036854775807 + a = 0) and a = 4":                                     truth(false),
		"a = 4 and 9223372036854775807 + a = 0 and 9223372036854775807 + a = 0":                truth(false),
		"a = 3 or 9223372036854775807 + a = 0 or 9223372036854775807 + a = 0":                  truth(true),
		"a = 3 or a = 4 and 9223372036854775807 + a = 0":                                       truth(true),
		"a = 4 and (a = 4 or 9223372036854775807 + a = 0)":                                     truth(false),
		"not (a = 4 and 9223372036854775807 + a = 0) and not (a = 4 and 9 = -(0 - a) * a * 9)": truth(true),
	} {
		comes(t, where(t, s), want)
	}
	for _, s := range []string{
		"(a = 4 or 9223372036854775807 + a = 0) and a = 4",
		"(a = 3 and 9223372036854775807 + a = 0) or a = 3",
		"(a = 4 and 9223372036854775807 + a = 0) or 9223372036854775807 + a = 0",
		"a = 4 or a = 3 and 9223372036854775807 + a = 0",
		"a = 4 or a = 5 or 9223372036854775807 + a = 0",
		"a = 3 and b = 'b' and 9223372036854775807 * a = 0",
	} {
		fails(t, where(t, s), api.ErrOverflow)
	}
}

// R1, R2: an Op that is none

func TestOpsThatAreNone(t *testing.T) {
	args := exprs(number(1), number(2), number(3))
	for _, o := range noOps {
		for n := range len(args) + 1 {
			fails(t, api.Expr{Op: o, Name: "a", Value: whole(1), Args: args[:n]}, api.ErrArg)
		}
		fails(t, op(api.ExNeg, op(o)), api.ErrArg)
		fails(t, op(api.ExAnd, yes(), op(o, yes(), yes())), api.ErrArg)
	}
}

// R1, R2: Args that are missing or too many

func TestOtherNumbersOfArgs(t *testing.T) {
	for want, ops := range [][]int{ofNone, ofOne, ofTwo} {
		for _, o := range ops {
			for n := range 5 {
				if n == want {
					continue
				}
				for _, arg := range exprs(number(1), text("a"), yes(), no(), column("a"), column("none"), runsOver()) {
					e := api.Expr{Op: o, Name: "a", Value: whole(1), Args: slices.Repeat(exprs(arg), n)}
					fails(t, e, api.ErrArg)
					fails(t, op(api.ExNot, e), api.ErrArg)
					fails(t, op(api.ExAdd, number(1), e), api.ErrArg)
				}
			}
			if want > 0 {
				fails(t, api.Expr{Op: o, Args: []api.Expr{}}, api.ErrArg)
			}
		}
	}
}

// R1, R2: values of kinds that don't fit

func TestKindsThatDoNotFit(t *testing.T) {
	all := []api.Value{whole(1), written("a"), truth(true), truth(false), {}, {Kind: -1, Int: 1}, {Kind: 4, Text: "a"}}
	for _, a := range all {
		if a.Kind != api.Int {
			fails(t, op(api.ExNeg, lit(a)), api.ErrType)
		}
		if a.Kind != api.Bool {
			fails(t, op(api.ExNot, lit(a)), api.ErrType)
			fails(t, op(api.ExAnd, lit(a), lit(truth(false))), api.ErrType)
			fails(t, op(api.ExAnd, lit(truth(true)), lit(a)), api.ErrType)
			fails(t, op(api.ExOr, lit(a), lit(truth(true))), api.ErrType)
			fails(t, op(api.ExOr, lit(truth(false)), lit(a)), api.ErrType)
		}
		for _, b := range all {
			for _, o := range sums {
				if a.Kind != api.Int || b.Kind != api.Int {
					fails(t, op(o, lit(a), lit(b)), api.ErrType)
				}
			}
			for _, o := range compares {
				if a.Kind != b.Kind || a.Kind != api.Int && a.Kind != api.Text {
					fails(t, op(o, lit(a), lit(b)), api.ErrType)
				}
			}
		}
	}
	fails(t, op(api.ExEq, column("a"), column("x")), api.ErrType)
	fails(t, op(api.ExEq, column("flag"), column("flag")), api.ErrType)
	fails(t, op(api.ExAdd, column("a"), column("b")), api.ErrType)
}
