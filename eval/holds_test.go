package eval_test

import (
	"testing"

	"quarantine/api"
	"quarantine/eval"
)

// holds asks for what Holds tells of where.
func holds(t *testing.T, where []api.Expr, want bool, err api.Errno) {
	t.Helper()
	cols, vals := over()
	if got, e := eval.Holds(cols, vals, where); got != want || e != err {
		t.Errorf("Holds of %s is %v, %d, not %v, %d", brief(where), got, e, want, err)
	}
}

// P11.1 Holds: none

func TestHoldsOfNone(t *testing.T) {
	for _, l := range [][]api.Expr{nil, {}, make([]api.Expr, 0, 9)} {
		holds(t, l, true, api.OK)
		if got, e := eval.Holds(nil, nil, l); !got || e != api.OK {
			t.Errorf("none, over no columns: %v, %d", got, e)
		}
	}
}

// P11.1 Holds: one that comes to 1, or to 0

func TestHoldsOfOne(t *testing.T) {
	for s, want := range map[string]bool{
		"1 = 1": true, "1 = 2": false, "a = 3": true, "a <> 3": false, "not a <> 3": true, "not a = 3": false,
		"flag": true, "not flag": false, "u.flag and x = 'it''s'": true, "t.both > 0 or u.both > ''": false,
		"1 = 2 and 9223372036854775807 + 1 = 0": false, "1 = 1 or 9223372036854775807 + 1 = 0": true,
		"t.both < a and b < x": true, "-1 = 1": false,
	} {
		holds(t, exprs(where(t, s)), want, api.OK)
	}
	holds(t, exprs(lit(truth(true))), true, api.OK)
	holds(t, exprs(lit(truth(false))), false, api.OK)
	holds(t, exprs(yes(), no())[:1], true, api.OK)
	holds(t, exprs(no(), yes())[:1], false, api.OK)
}

// P11.1 Holds: its error, with false beside it

func TestHoldsOfAnError(t *testing.T) {
	for _, x := range wrong() {
		for _, e := range exprs(x.e, asTruth(x.e), op(api.ExNot, asTruth(x.e)), op(api.ExOr, asTruth(x.e), yes()), op(api.ExAnd, yes(), asTruth(x.e))) {
			holds(t, exprs(e), false, x.err)
		}
		holds(t, exprs(op(api.ExOr, yes(), asTruth(x.e))), true, api.OK)
		holds(t, exprs(op(api.ExAnd, no(), asTruth(x.e))), false, api.OK)
	}
	if got, e := eval.Holds(nil, nil, exprs(column("flag"))); got || e != api.ErrColumn {
		t.Errorf("over no columns: %v, %d", got, e)
	}
	for _, o := range noOps {
		holds(t, exprs(op(o)), false, api.ErrArg)
	}
}

// It hangs on each row's own values.
func TestHoldsRowByRow(t *testing.T) {
	cols := []api.Item{{Table: "t", Name: "k"}, {Table: "t", Name: "x"}}
	e := exprs(where(t, "k * k = 4 and x > 'a'"))
	for _, x := range []struct {
		vals []api.Value
		want bool
		err  api.Errno
	}{
		{[]api.Value{whole(2), written("b")}, true, api.OK}, {[]api.Value{whole(-2), written("aa")}, true, api.OK},
		{[]api.Value{whole(2), written("a")}, false, api.OK}, {[]api.Value{whole(-2), written("")}, false, api.OK},
		{[]api.Value{whole(1), written("b")}, false, api.OK}, {[]api.Value{whole(1 << 32), written("b")}, false, api.ErrOverflow},
		{[]api.Value{whole(2)}, false, api.ErrColumn}, {[]api.Value{whole(1)}, false, api.OK}, {nil, false, api.ErrColumn},
	} {
		if got, err := eval.Holds(cols, x.vals, e); got != x.want || err != x.err {
			t.Errorf("%+v: %v, %d", x.vals, got, err)
		}
	}
}

// More than one is none that holds, and no panic (R1, R2).
func TestHoldsOfMore(t *testing.T) {
	for _, l := range [][]api.Expr{{yes(), yes()}, {no(), yes()}, {runsOver(), yes()}, {yes(), runsOver()}, make([]api.Expr, 1<<17)} {
		holds(t, l, false, api.ErrArg)
	}
}
