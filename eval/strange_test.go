package eval_test

import (
	"math"
	"slices"
	"strings"
	"testing"

	"quarantine/api"
	"quarantine/eval"
	"quarantine/typed"
)

// strangeValue tells a value of any form.
func strangeValue(d *dice) api.Value {
	return api.Value{Kind: pick(d, api.Int, api.Text, api.Bool, d.next(8)-2, math.MinInt, math.MaxInt), Int: pick(d, 0, 1, 1, int64(d.next(9)-4), math.MinInt64, math.MaxInt64), Text: pick(d, "", "", "a", "\xff\x00")}
}

// strangeExpr tells an expression of any form, though often of one that is looked at far.
func strangeExpr(d *dice, deep int) api.Expr {
	x := api.Expr{
		Op:    pick(d, pick(d, ofNone...), pick(d, ofOne...), pick(d, ofTwo...), pick(d, ofTwo...), d.next(20)-2, pick(d, noOps...)),
		Value: strangeValue(d), Table: pick(d, "", "", "t", "u", "z"), Name: pick(d, "", "k", "x", "y"),
	}
	if deep == 0 || d.next(3) == 0 {
		x.Op = pick(d, ofNone...)
	}
	parts := 2
	if slices.Contains(ofOne, x.Op) {
		parts = 1
	}
	if slices.Contains(ofNone, x.Op) {
		parts = 0
	}
	if d.next(20) == 0 {
		parts = d.next(4)
	}
	for range parts * min(deep, 1) {
		x.Args = append(x.Args, strangeExpr(d, deep-1))
	}
	return x
}

// strangeExprs tells some of them, or none.
func strangeExprs(d *dice, deep int) []api.Expr {
	var l []api.Expr
	for range d.next(4) {
		l = append(l, strangeExpr(d, deep))
	}
	return l
}

// strangeRow tells columns and values of any form, not always as many of both.
func strangeRow(d *dice) (cols []api.Item, vals []api.Value) {
	for range d.next(6) {
		cols = append(cols, api.Item{Agg: d.next(7) - 1, Table: pick(d, "", "t", "u"), Name: pick(d, "", "k", "x", "y")})
	}
	for range d.next(6) {
		vals = append(vals, strangeValue(d))
	}
	return cols, vals
}

// R1, R2: none panics, whatever is handed in; nothing stands beside an error; what fits runs over, or has none

func TestWhateverIsHandedIn(t *testing.T) {
	d := dice(3)
	told := map[api.Errno]int{}
	for range 60000 {
		cols, vals := strangeRow(&d)
		l := strangeExprs(&d, 4)
		for _, e := range l {
			got, err := eval.Eval(cols, vals, e)
			told[err]++
			if err != api.OK && got != (api.Value{}) {
				t.Fatalf("%s comes to %s beside %d", brief(e), brief(got), err)
			}
			if kind, not := typed.Kind(cols, kindsOf(vals), e); not == api.OK && err != api.ErrOverflow && (err != api.OK || got.Kind != kind) {
				t.Fatalf("%s of kind %d comes to %s, %d", brief(e), kind, brief(got), err)
			}
			if is, e2 := eval.Holds(cols, vals, exprs(e)); is != (got.Int == 1) || e2 != err {
				t.Fatalf("Holds of %s is %v, %d, and it comes to %s, %d", brief(e), is, e2, brief(got), err)
			}
		}
		if is, err := eval.Holds(cols, vals, l); is && err != api.OK {
			t.Fatalf("Holds of %s is %v beside %d", brief(l), is, err)
		}
	}
	for _, e := range []api.Errno{api.OK, api.ErrArg, api.ErrColumn, api.ErrType, api.ErrOverflow} {
		if told[e] < 50 {
			t.Errorf("%d is told but %d times", e, told[e])
		}
	}
}

// Each way with each two values of any form, as literals and as columns.
func TestWaysOfAnyTwo(t *testing.T) {
	d := dice(4)
	for range 3000 {
		a, b := strangeValue(&d), strangeValue(&d)
		cols, vals := []api.Item{{Name: "a"}, {Name: "b"}}, []api.Value{a, b}
		for _, o := range slices.Concat(ofTwo, ofOne) {
			args, same := exprs(lit(a), lit(b)), exprs(column("a"), column("b"))
			for n := range 3 {
				x, e := eval.Eval(nil, nil, op(o, args[:n]...))
				y, f := eval.Eval(cols, vals, op(o, same[:n]...))
				if x != y || e != f || e != api.OK && x != (api.Value{}) {
					t.Fatalf("%d of %s: %s, %d of literals, and %s, %d of columns", o, brief(vals), brief(x), e, brief(y), f)
				}
			}
		}
	}
}

// Names are held against each other byte by byte, whatever bytes they have.
func TestNamesThatNoTextHas(t *testing.T) {
	for _, name := range []string{"", " ", "select", "*", "t.a", "\x00", "\xff", strings.Repeat("n", 1<<16)} {
		cols := []api.Item{{Table: name + "t", Name: name}, {Table: name, Name: name + "k"}}
		vals := []api.Value{whole(1), whole(2)}
		for _, x := range []struct {
			e    api.Expr
			want api.Value
			err  api.Errno
		}{
			{column(name), whole(1), api.OK}, {columnOf(name+"t", name), whole(1), api.OK},
			{column(name + "k"), whole(2), api.OK}, {columnOf(name, name+"k"), whole(2), api.OK},
			{columnOf(name+"t", name+"k"), api.Value{}, api.ErrColumn}, {column(name + "x"), api.Value{}, api.ErrColumn},
		} {
			if got, err := eval.Eval(cols, vals, x.e); got != x.want || err != x.err {
				t.Errorf("%s: %+v, %d", brief(x.e), got, err)
			}
		}
	}
}

// Limits: lists and texts may be long.
func TestLongLists(t *testing.T) {
	const long = 1 << 17
	cols, vals := make([]api.Item, long), make([]api.Value, long)
	cols[long-1], vals[long-1] = api.Item{Table: "t", Name: "a"}, written(strings.Repeat("a", long))
	if got, err := eval.Eval(cols, vals, column("a")); got != vals[long-1] || err != api.OK {
		t.Errorf("a column behind many: %s, %d", brief(got), err)
	}
	if got, err := eval.Eval(cols, vals, op(api.ExLt, column("a"), text("b"))); got != truth(true) || err != api.OK {
		t.Errorf("a long text: %s, %d", brief(got), err)
	}
	if got, err := eval.Eval(cols, vals[1:], column("a")); got != (api.Value{}) || err != api.ErrColumn {
		t.Errorf("a column without a value: %s, %d", brief(got), err)
	}
	if got, err := eval.Eval(cols, vals, column("")); got != (api.Value{}) || err != api.ErrColumn {
		t.Errorf("one of many: %s, %d", brief(got), err)
	}
}
