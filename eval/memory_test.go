package eval_test

import (
	"reflect"
	"strings"
	"testing"
	"unsafe"

	"quarantine/api"
	"quarantine/eval"
)

// given is what is handed in to both calls.
type given struct {
	Cols  []api.Item
	Vals  []api.Value
	Where []api.Expr
}

// told is what they tell.
type told struct {
	value      api.Value
	holds      bool
	err, other api.Errno
}

func ask(g given) told {
	var a told
	if len(g.Where) > 0 {
		a.value, a.err = eval.Eval(g.Cols, g.Vals, g.Where[0])
	}
	a.holds, a.other = eval.Holds(g.Cols, g.Vals, g.Where)
	return a
}

// asked tells many that may be handed in: each way, with all errors, over columns that fit and over others.
func asked() []given {
	var out []given
	d := dice(5)
	cols, _ := over()
	for i := range 300 {
		vals := rowOf(&d)
		g := grower{&d, plain{cols, vals}, []int{5, 200}[i%2]}
		out = append(out, given{cols, vals, exprs(g.expr(pick(&d, api.Int, api.Text, api.Bool), 3))})
		c, v := strangeRow(&d)
		out = append(out, given{c, v, strangeExprs(&d, 3)})
	}
	return out
}

// roomy tells a copy of v that shares no memory with it, in which each list has spare room, and something in it.
func roomy(v reflect.Value) reflect.Value {
	out := reflect.New(v.Type()).Elem()
	switch v.Kind() {
	case reflect.String:
		out.SetString(strings.Clone(v.String()))
	case reflect.Slice:
		out = reflect.MakeSlice(v.Type(), v.Len()+2, v.Len()+2)
		for i := range v.Len() {
			out.Index(i).Set(roomy(v.Index(i)))
		}
		for i := v.Len(); i < out.Cap(); i++ {
			spoil(out.Index(i))
		}
		out = out.Slice3(0, v.Len(), out.Cap())
	case reflect.Struct:
		for i := range v.NumField() {
			out.Field(i).Set(roomy(v.Field(i)))
		}
	default:
		out.Set(v)
	}
	return out
}

func withRoom[T any](x T) T { return roomy(reflect.ValueOf(x)).Interface().(T) }

// spoil makes all of v another, with all that its lists have, spare room too.
func spoil(v reflect.Value) {
	switch v.Kind() {
	case reflect.String:
		v.SetString(v.String() + "?")
	case reflect.Slice:
		whole := v.Slice(0, v.Cap())
		for i := range whole.Len() {
			spoil(whole.Index(i))
		}
	case reflect.Struct:
		for i := range v.NumField() {
			spoil(v.Field(i))
		}
	default:
		v.SetInt(v.Int() + 1)
	}
}

// inside tells all of v as it stands, the spare room of its lists as if it were in them.
func inside(v reflect.Value) any {
	var l []any
	switch v.Kind() {
	case reflect.Slice:
		l = append(l, v.Len())
		for i := range v.Cap() {
			l = append(l, inside(v.Slice(0, v.Cap()).Index(i)))
		}
	case reflect.Struct:
		for i := range v.NumField() {
			l = append(l, inside(v.Field(i)))
		}
	default:
		return v.Interface()
	}
	return l
}

// R3: what is handed in stays as it was, spare room too; what stands in the spare room says nothing

func TestWhatIsHandedInStays(t *testing.T) {
	for _, x := range asked() {
		g, was := withRoom(x), withRoom(x)
		if a, b := ask(g), ask(x); a != b {
			t.Fatalf("%s with spare room, and %s without, of %s", brief(a), brief(b), brief(x))
		}
		if !reflect.DeepEqual(inside(reflect.ValueOf(g)), inside(reflect.ValueOf(was))) {
			t.Fatalf("%s became %s", brief(was), brief(g))
		}
	}
}

// R3, R4: nothing is kept: a call hangs on what it is handed alone, whatever became of what was handed in before

func TestTheSameEachTime(t *testing.T) {
	for _, x := range asked() {
		g := withRoom(x)
		want := ask(g)
		spoil(reflect.ValueOf(&g).Elem())
		ask(g)
		if got := ask(x); got != want {
			t.Fatalf("%s, and then %s, of %s", brief(want), brief(got), brief(x))
		}
	}
}

// R3: a text that is told is new memory

func TestTextsAreNewMemory(t *testing.T) {
	cols, vals := []api.Item{{Table: "t", Name: "x"}}, []api.Value{written(strings.Repeat("x", 5))}
	literal := text(strings.Repeat("y", 5))
	for _, x := range []struct {
		e   api.Expr
		own string
	}{{column("x"), vals[0].Text}, {columnOf("t", "x"), vals[0].Text}, {literal, literal.Value.Text}} {
		got, err := eval.Eval(cols, vals, x.e)
		if err != api.OK || got != written(x.own) {
			t.Fatalf("%+v comes to %+v, %d", x.e, got, err)
		}
		if unsafe.StringData(got.Text) == unsafe.StringData(x.own) {
			t.Errorf("what %+v comes to shares its text", x.e)
		}
	}
}
