package eval_test

import (
	"math/big"
	"slices"
	"strings"
	"testing"

	"quarantine/api"
	"quarantine/eval"
	"quarantine/typed"
)

// plain is a second reading of the chapter: what expressions come to over these columns, by its sentences one by one, with numbers without bounds.
type plain struct {
	cols []api.Item
	vals []api.Value
}

func (p plain) value(e api.Expr) (api.Value, api.Errno) {
	switch {
	case slices.Contains(ofNone, e.Op) && len(e.Args) == 0:
		return p.leaf(e)
	case slices.Contains(ofOne, e.Op) && len(e.Args) == 1:
		v, err := p.value(e.Args[0])
		if err != api.OK {
			return api.Value{}, err
		}
		if e.Op == api.ExNeg {
			return ofPair(api.ExSub, api.Value{Kind: v.Kind}, v)
		}
		if v.Kind != api.Bool {
			return api.Value{}, api.ErrType
		}
		return truth(v.Int == 0), api.OK
	case slices.Contains(ofTwo, e.Op) && len(e.Args) == 2:
		return p.two(e.Op, e.Args[0], e.Args[1])
	}
	return api.Value{}, api.ErrArg
}

func (p plain) leaf(e api.Expr) (api.Value, api.Errno) {
	if e.Op == api.ExLit {
		return e.Value, api.OK
	}
	var found []api.Value
	for i := 0; i < len(p.cols) && i < len(p.vals); i++ {
		if p.cols[i].Name == e.Name && (e.Table == "" || p.cols[i].Table == e.Table) {
			found = append(found, p.vals[i])
		}
	}
	if len(found) != 1 {
		return api.Value{}, api.ErrColumn
	}
	return found[0], api.OK
}

func (p plain) two(o int, left, right api.Expr) (api.Value, api.Errno) {
	a, err := p.value(left)
	if err != api.OK {
		return api.Value{}, err
	}
	if o == api.ExAnd || o == api.ExOr {
		if a.Kind != api.Bool {
			return api.Value{}, api.ErrType
		}
		if o == api.ExAnd && a.Int == 0 || o == api.ExOr && a.Int == 1 {
			return a, api.OK
		}
	}
	b, err := p.value(right)
	if err != api.OK {
		return api.Value{}, err
	}
	return ofPair(o, a, b)
}

// ofPair tells what a way makes of two values, both of which are looked at: so an and or an or comes to the second.
func ofPair(o int, a, b api.Value) (api.Value, api.Errno) {
	way := bigs()[o]
	switch {
	case a.Kind != b.Kind:
	case a.Kind == api.Int && way != nil:
		if n := way(big.NewInt(a.Int), big.NewInt(b.Int)); n.IsInt64() {
			return whole(n.Int64()), api.OK
		}
		return api.Value{}, api.ErrOverflow
	case a.Kind == api.Int && slices.Contains(compares, o):
		return truth(holdsOf(o, big.NewInt(a.Int).Cmp(big.NewInt(b.Int)))), api.OK
	case a.Kind == api.Text && slices.Contains(compares, o):
		return truth(holdsOf(o, strings.Compare(a.Text, b.Text))), api.OK
	case a.Kind == api.Bool && (o == api.ExAnd || o == api.ExOr):
		return b, api.OK
	}
	return api.Value{}, api.ErrType
}

// grower makes expressions that mostly fit their columns, and sometimes not, by one reason or several.
type grower struct {
	*dice
	plain
	odds int // one of so many is a slip
}

func (g grower) slips() bool { return g.next(g.odds) == 0 }

// rowOf tells a row of values of the kinds of over's columns.
func rowOf(d *dice) []api.Value {
	_, vals := over()
	for i, v := range vals {
		vals[i] = valueOf(d, v.Kind)
	}
	return vals
}

// valueOf tells a value of that kind, often one at an edge.
func valueOf(d *dice, kind int) api.Value {
	switch kind {
	case api.Int:
		return whole(pick(d, pick(d, edges()...), int64(d.next(5)-2)))
	case api.Text:
		return written(pick(d, "", "a", "ab", "b", "it's", "~"))
	case api.Bool:
		return truth(d.next(2) == 0)
	}
	return api.Value{Kind: kind}
}

// expr tells an expression of that kind, which names columns that there are.
func (g grower) expr(kind, deep int) api.Expr {
	if g.slips() {
		return pick(g.dice, column("none"), column("both"), op(api.ExNeg), op(77), g.expr(pick(g.dice, api.Int, api.Text, api.Bool), deep), lit(api.Value{}), op(api.ExAdd, number(1), number(2), number(3)))
	}
	if deep == 0 || kind == api.Text || g.next(4) == 0 {
		return g.end(kind)
	}
	two := func(kind, op int) api.Expr {
		return api.Expr{Op: op, Args: exprs(g.expr(kind, deep-1), g.expr(kind, deep-1))}
	}
	switch {
	case kind == api.Int && g.next(4) == 0:
		return op(api.ExNeg, g.expr(kind, deep-1))
	case kind == api.Int:
		return two(kind, pick(g.dice, sums...))
	case g.next(5) == 0:
		return op(api.ExNot, g.expr(kind, deep-1))
	case g.next(2) == 0:
		return two(kind, pick(g.dice, api.ExAnd, api.ExOr))
	}
	return two(pick(g.dice, api.Int, api.Text), pick(g.dice, compares...))
}

// end tells a column or a literal of that kind.
func (g grower) end(kind int) api.Expr {
	i := g.next(len(g.cols))
	if g.vals[i].Kind == kind {
		return columnOf(g.cols[i].Table, g.cols[i].Name)
	}
	return lit(valueOf(g.dice, kind))
}

// P11.1: many expressions, held against its sentences

func TestGrownExpressions(t *testing.T) {
	d := dice(1)
	cols, _ := over()
	told := map[api.Errno]int{}
	came := map[api.Value]int{}
	for i := range 150000 {
		vals := rowOf(&d)
		g := grower{&d, plain{cols, vals}, []int{10, 50, 5000}[i%3]}
		e := g.expr(pick(&d, api.Int, api.Text, api.Bool, api.Bool), 4)
		want, err := g.value(e)
		told[err]++
		came[want]++
		if got, e2 := eval.Eval(cols, vals, e); got != want || e2 != err {
			t.Fatalf("%+v over %+v comes to %+v, %d, not %+v, %d", e, vals, got, e2, want, err)
		}
		if is, e2 := eval.Holds(cols, vals, exprs(e)); is != (want.Int == 1) || e2 != err {
			t.Fatalf("Holds of %+v over %+v is %v, %d, not of %+v, %d", e, vals, is, e2, want, err)
		}
	}
	for _, e := range []api.Errno{api.OK, api.ErrOverflow, api.ErrArg, api.ErrColumn, api.ErrType} {
		if told[e] < 1000 {
			t.Errorf("%d is told but %d times", e, told[e])
		}
	}
	for _, is := range []bool{false, true} {
		if came[truth(is)] < 1000 {
			t.Errorf("%v comes out but %d times", is, came[truth(is)])
		}
	}
}

// kindsOf tells the values' kinds.
func kindsOf(vals []api.Value) []int {
	var out []int
	for _, v := range vals {
		out = append(out, v.Kind)
	}
	return out
}

// P11.1, P10.1: what typed.Kind lets through comes to a value of that kind, or runs over

func TestWhatFits(t *testing.T) {
	d := dice(2)
	cols, _ := over()
	fit := map[api.Errno]int{}
	for i := range 60000 {
		vals := rowOf(&d)
		g := grower{&d, plain{cols, vals}, []int{20, 5000}[i%2]}
		e := g.expr(pick(&d, api.Int, api.Text, api.Bool, api.Bool), 4)
		kind, not := typed.Kind(cols, kindsOf(vals), e)
		if not != api.OK {
			continue
		}
		got, err := eval.Eval(cols, vals, e)
		fit[err]++
		if err == api.OK && got.Kind != kind || err != api.OK && err != api.ErrOverflow {
			t.Fatalf("%+v of kind %d comes to %+v, %d", e, kind, got, err)
		}
		if err == api.OK && kind == api.Bool && got != truth(false) && got != truth(true) {
			t.Fatalf("%+v comes to %+v, which is neither 1 nor 0", e, got)
		}
	}
	if fit[api.OK] < 1000 || fit[api.ErrOverflow] < 1000 {
		t.Errorf("but so many fit: %v", fit)
	}
}
