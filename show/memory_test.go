package show_test

import (
	"reflect"
	"strings"
	"testing"
	"unsafe"

	"quarantine/api"
	"quarantine/show"
)

// copied tells a copy of v that shares no memory with it: each list with its spare room, each text.
func copied(v reflect.Value) reflect.Value {
	out := reflect.New(v.Type()).Elem()
	switch v.Kind() {
	case reflect.String:
		out.SetString(strings.Clone(v.String()))
	case reflect.Slice:
		if v.IsNil() {
			return out
		}
		whole := v.Slice(0, v.Cap())
		out = reflect.MakeSlice(v.Type(), v.Cap(), v.Cap())
		for i := range whole.Len() {
			out.Index(i).Set(copied(whole.Index(i)))
		}
		out = out.Slice3(0, v.Len(), v.Cap())
	case reflect.Struct:
		for i := range v.NumField() {
			out.Field(i).Set(copied(v.Field(i)))
		}
	default:
		out.Set(v)
	}
	return out
}

// roomy tells st with spare room behind each list, and something in it.
func roomy(st api.Stmt) api.Stmt {
	spare := api.Expr{Op: api.ExCol, Name: "spare"}
	for _, l := range []*[]api.Expr{&st.Values, &st.On, &st.Where, &st.Order} {
		*l = append(append([]api.Expr{}, *l...), spare, spare)[:len(*l)]
	}
	st.Cols = append(append([]api.Col{}, st.Cols...), api.Col{Name: "spare"})[:len(st.Cols)]
	st.Tags = append(append([]uint16{}, st.Tags...), 9)[:len(st.Tags)]
	st.Items = append(append([]api.Item{}, st.Items...), api.Item{Name: "spare"})[:len(st.Items)]
	inner := append([]api.Stmt{}, st.Inner...)
	for i := range inner {
		inner[i] = roomy(inner[i])
	}
	st.Inner = append(inner, api.Stmt{Kind: api.StCall, Name: "spare"})[:len(st.Inner)]
	return st
}

// R3: what is handed in stays as it was, spare room too

func TestWhatIsHandedInStays(t *testing.T) {
	d := dice(4)
	given := []api.Stmt{{}}
	for _, s := range samples() {
		given = append(given, s.st)
	}
	for range 2000 {
		given = append(given, strangeStmt(&d, 2))
	}
	for _, st := range given {
		st = roomy(st)
		was := copied(reflect.ValueOf(st)).Interface().(api.Stmt)
		show.Show(st)
		for _, x := range st.Where {
			show.Expr(x)
		}
		if !equalWithRoom(reflect.ValueOf(st), reflect.ValueOf(was)) {
			t.Fatalf("Show changed %+v to %+v", was, st)
		}
	}
}

// equalWithRoom tells whether a and b are the same, with the spare room of their lists.
func equalWithRoom(a, b reflect.Value) bool {
	switch a.Kind() {
	case reflect.Slice:
		if a.Len() != b.Len() || a.Cap() != b.Cap() {
			return false
		}
		a, b = a.Slice(0, a.Cap()), b.Slice(0, b.Cap())
		for i := range a.Len() {
			if !equalWithRoom(a.Index(i), b.Index(i)) {
				return false
			}
		}
		return true
	case reflect.Struct:
		for i := range a.NumField() {
			if !equalWithRoom(a.Field(i), b.Field(i)) {
				return false
			}
		}
		return true
	}
	return a.Equal(b)
}

// lent hands one text to see, and takes its bytes away again: what was told must stay.
func lent(t *testing.T, want string, see func(s string) string) {
	t.Helper()
	bytes := []byte("abc")
	got := see(unsafe.String(&bytes[0], len(bytes)))
	if got != want {
		t.Errorf("%q is told, not %q", got, want)
	}
	copy(bytes, "xyz")
	if got != want {
		t.Errorf("what was told is %q, not %q, when the bytes are others", got, want)
	}
}

// R3: what is told is new memory

func TestNothingIsShared(t *testing.T) {
	lent(t, "abc", func(s string) string { return show.Expr(column(s)) })
	lent(t, "abc.abc", func(s string) string { return show.Expr(api.Expr{Op: api.ExCol, Table: s, Name: s}) })
	lent(t, "'abc'", func(s string) string { return show.Expr(text(s)) })
	lent(t, "(not abc)", func(s string) string { return show.Expr(op(api.ExNot, column(s))) })
	lent(t, "call abc", func(s string) string { return show.Show(api.Stmt{Kind: api.StCall, Name: s}) })
	lent(t, "create index on abc(abc)", func(s string) string { return show.Show(api.Stmt{Kind: api.StIndex, Table: s, Name: s}) })
	lent(t, "delete from abc where abc", func(s string) string {
		return show.Show(api.Stmt{Kind: api.StDelete, Table: s, Where: exprs(column(s))})
	})
}

// R4: a call hangs on what it is handed alone

func TestTheSameEachTime(t *testing.T) {
	for _, s := range samples() {
		show.Show(api.Stmt{Kind: api.StRaise})
		show.Expr(op(api.ExNeg))
		stmt(t, s.st, s.want)
		stmt(t, s.st, s.want)
	}
}
