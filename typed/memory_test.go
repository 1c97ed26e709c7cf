package typed_test

import (
	"reflect"
	"strings"
	"testing"

	"quarantine/api"
	"quarantine/typed"
)

// given is what is handed in to both calls.
type given struct {
	S     api.Schema
	St    api.Stmt
	Cols  []api.Item
	Kinds []int
	E     api.Expr
}

// told is what they tell.
type told struct {
	check, err api.Errno
	kind       int
}

func ask(g given) told {
	var a told
	a.check = typed.Check(g.S, g.St)
	a.kind, a.err = typed.Kind(g.Cols, g.Kinds, g.E)
	return a
}

// asked tells many that may be handed in: each kind of statement, with all errors, on schemas of creates and on others.
func asked(t *testing.T) []given {
	t.Helper()
	var out []given
	d := dice(4)
	s := town(t)
	cols, kinds := over()
	for i := range 200 {
		g := grower{&d, cols, kinds, []int{5, 200}[i%2]}
		out = append(out, given{s, g.stmt(s, 2), cols, kinds, g.expr(api.Bool, 3)})
		e := append(strangeExprs(&d, 3), api.Expr{})
		out = append(out, given{strangeSchema(&d), strangeStmt(&d, 2), cols[i%3:], kinds[i%4:], e[0]})
	}
	return out
}

// roomy tells a copy of v that shares no memory with it, in which each list has spare room, and something in it.
func roomy(v reflect.Value) reflect.Value {
	out := reflect.New(v.Type()).Elem()
	switch v.Kind() {
	case reflect.String:
		out.SetString(strings.Clone(v.String()))
	case reflect.Slice:
		out = reflect.MakeSlice(v.Type(), v.Len()+2, v.Len()+2)
		for i := range v.Len() {
			out.Index(i).Set(roomy(v.Index(i)))
		}
		for i := v.Len(); i < out.Cap(); i++ {
			spoil(out.Index(i))
		}
		out = out.Slice3(0, v.Len(), out.Cap())
	case reflect.Struct:
		for i := range v.NumField() {
			out.Field(i).Set(roomy(v.Field(i)))
		}
	default:
		out.Set(v)
	}
	return out
}

func withRoom[T any](x T) T { return roomy(reflect.ValueOf(x)).Interface().(T) }

// spoil makes all of v another, with all that its lists have, spare room too.
func spoil(v reflect.Value) {
	switch v.Kind() {
	case reflect.String:
		v.SetString(v.String() + "?")
	case reflect.Slice:
		whole := v.Slice(0, v.Cap())
		for i := range whole.Len() {
			spoil(whole.Index(i))
		}
	case reflect.Struct:
		for i := range v.NumField() {
			spoil(v.Field(i))
		}
	case reflect.Bool:
		v.SetBool(!v.Bool())
	case reflect.Uint16:
		v.SetUint(v.Uint() ^ 1)
	default:
		v.SetInt(v.Int() + 1)
	}
}

// whole tells all of v as it stands, the spare room of its lists as if it were in them.
func whole(v reflect.Value) any {
	var l []any
	switch v.Kind() {
	case reflect.Slice:
		l = append(l, v.Len())
		for i := range v.Cap() {
			l = append(l, whole(v.Slice(0, v.Cap()).Index(i)))
		}
	case reflect.Struct:
		for i := range v.NumField() {
			l = append(l, whole(v.Field(i)))
		}
	default:
		return v.Interface()
	}
	return l
}

// R3: what is handed in stays as it was, spare room too; what stands in the spare room says nothing

func TestWhatIsHandedInStays(t *testing.T) {
	for _, x := range asked(t) {
		g, was := withRoom(x), withRoom(x)
		if a, b := ask(g), ask(x); a != b {
			t.Fatalf("%+v with spare room, and %+v without, of %+v", a, b, x)
		}
		if !reflect.DeepEqual(whole(reflect.ValueOf(g)), whole(reflect.ValueOf(was))) {
			t.Fatalf("%+v became %+v", was, g)
		}
	}
}

// R3, R4: nothing is kept: a call hangs on what it is handed alone, whatever became of what was handed in before

func TestTheSameEachTime(t *testing.T) {
	for _, x := range asked(t) {
		g := withRoom(x)
		want := ask(g)
		spoil(reflect.ValueOf(&g).Elem())
		ask(g)
		if got := ask(x); got != want {
			t.Fatalf("%+v, and then %+v, of %+v", want, got, x)
		}
	}
}
