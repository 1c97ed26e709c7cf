package schema_test

import (
	"reflect"
	"strings"
	"testing"
	"unsafe"

	"quarantine/api"
	"quarantine/schema"
)

// roomy tells a copy of v that shares no memory with it, in which each list has spare room, and something in it.
func roomy(v reflect.Value) reflect.Value {
	out := reflect.New(v.Type()).Elem()
	switch v.Kind() {
	case reflect.String:
		out.SetString(strings.Clone(v.String()))
	case reflect.Slice:
		out = reflect.MakeSlice(v.Type(), v.Len()+2, v.Len()+2)
		for i := range v.Len() {
			out.Index(i).Set(roomy(v.Index(i)))
		}
		for i := v.Len(); i < out.Cap(); i++ {
			spoil(out.Index(i))
		}
		out = out.Slice3(0, v.Len(), out.Cap())
	case reflect.Struct:
		for i := range v.NumField() {
			out.Field(i).Set(roomy(v.Field(i)))
		}
	default:
		out.Set(v)
	}
	return out
}

func withRoom[T any](x T) T { return roomy(reflect.ValueOf(x)).Interface().(T) }

// spoil makes all of v another, with all that its lists have, spare room too.
func spoil(v reflect.Value) {
	switch v.Kind() {
	case reflect.String:
		v.SetString(v.String() + "?")
	case reflect.Slice:
		whole := v.Slice(0, v.Cap())
		for i := range whole.Len() {
			spoil(whole.Index(i))
		}
	case reflect.Struct:
		for i := range v.NumField() {
			spoil(v.Field(i))
		}
	case reflect.Bool:
		v.SetBool(!v.Bool())
	case reflect.Uint16:
		v.SetUint(v.Uint() ^ 1)
	default:
		v.SetInt(v.Int() + 1)
	}
}

// span is memory, from its first byte to behind its last.
type span struct{ from, to uintptr }

func (a span) meets(b span) bool { return a.from < b.to && b.from < a.to }

// spans tells the memory of each list (spare room too) and of each text in v.
func spans(v reflect.Value) (lists, texts []span) {
	switch v.Kind() {
	case reflect.String:
		if v.Len() > 0 {
			at := uintptr(unsafe.Pointer(unsafe.StringData(v.String())))
			texts = append(texts, span{at, at + uintptr(v.Len())})
		}
	case reflect.Slice:
		if v.Cap() > 0 {
			lists = append(lists, span{v.Pointer(), v.Pointer() + uintptr(v.Cap())*v.Type().Elem().Size()})
		}
		for i := range v.Len() {
			l, x := spans(v.Index(i))
			lists, texts = append(lists, l...), append(texts, x...)
		}
	case reflect.Struct:
		for i := range v.NumField() {
			l, x := spans(v.Field(i))
			lists, texts = append(lists, l...), append(texts, x...)
		}
	}
	return lists, texts
}

// given is what is handed in to all calls.
type given struct {
	S    api.Schema
	St   api.Stmt
	Owns api.Label
	Name string
}

// told is what they tell.
type told struct {
	Next  api.Schema
	Err   api.Errno
	Table api.Table
	View  api.View
	Refs  []string
}

func ask(g given) told {
	var a told
	a.Next, a.Err = schema.Add(g.S, g.St, g.Owns)
	a.Table, _ = schema.Table(g.S, g.Name)
	a.View, _ = schema.View(g.S, g.Name)
	a.Refs = schema.Refs(g.S, g.Name)
	schema.Column(a.Table, g.Name)
	schema.Indexed(a.Table, g.Name)
	return a
}

// asked tells many that may be handed in: each kind of create, with all errors, on schemas of Add's and on others.
func asked(t *testing.T) []given {
	t.Helper()
	var out []given
	towns := town(t)
	for _, text := range []string{
		"create table a(k int, r int ref t, x text)", "create table t(k int)", "create index on t(x)", "create index on t(y)", "create index on t(z)",
		"create view w strip 5, 1, 5 as select max(t.k), count(*) from t join u on t.k = u.r where not x = 'a' and k < -1 order by k desc",
		"create view w strip 5, 1 as select a, b from t where a = 'b' order by t.a",
		"create closure w strip 5 as update t set x = 'a' where k + 1 = 2", "create closure w strip as insert into t values(1, 'a', -2)",
		"create closure w strip 2 as delete from t", "create view u strip as select * from t", "commit",
	} {
		for _, name := range []string{"t", "both", "u", "none"} {
			out = append(out, given{towns, stmt(t, text), owned, name})
		}
	}
	d := dice(4)
	for range 200 {
		out = append(out, given{strangeSchema(&d), strangeStmt(&d, 2), strangeStmt(&d, 0).Tags, pick(&d, "", "t", "u", "v")})
	}
	return out
}

// R3: what is handed in stays as it was, spare room too, and what is told stays when the other is changed afterwards

func TestNeitherChangesWithTheOther(t *testing.T) {
	for _, x := range asked(t) {
		g, was := withRoom(x), withRoom(x)
		a := ask(g)
		if !reflect.DeepEqual(whole(g), whole(was)) {
			t.Fatalf("%+v became %+v", was, g)
		}
		before := bare(reflect.ValueOf(a)).Interface()
		spoil(reflect.ValueOf(&g).Elem())
		if !reflect.DeepEqual(bare(reflect.ValueOf(a)).Interface(), before) {
			t.Fatalf("what was told of %+v became %+v, and was %+v", was, a, before)
		}
		g = withRoom(x)
		a = ask(g)
		spoil(reflect.ValueOf(&a).Elem())
		if !reflect.DeepEqual(whole(g), whole(was)) {
			t.Fatalf("%+v became %+v when what was told was changed", was, g)
		}
	}
}

// whole tells all of g as it stands, the spare room of its lists as if it were in them.
func whole(g given) any {
	var unfold func(v reflect.Value) any
	unfold = func(v reflect.Value) any {
		var l []any
		switch v.Kind() {
		case reflect.Slice:
			l = append(l, v.Len())
			for i := range v.Cap() {
				l = append(l, unfold(v.Slice(0, v.Cap()).Index(i)))
			}
		case reflect.Struct:
			for i := range v.NumField() {
				l = append(l, unfold(v.Field(i)))
			}
		default:
			return v.Interface()
		}
		return l
	}
	return unfold(reflect.ValueOf(g))
}

// R3: what is told is new memory, of which no two lists share any

func TestNothingIsShared(t *testing.T) {
	for _, x := range asked(t) {
		g := withRoom(x)
		theirs, words := spans(reflect.ValueOf(g))
		a := ask(g)
		lists, texts := spans(reflect.ValueOf(a))
		for i, l := range lists {
			for _, other := range append(theirs[:len(theirs):len(theirs)], lists[i+1:]...) {
				if l.meets(other) {
					t.Fatalf("a list that is told of %+v shares memory", g)
				}
			}
		}
		for _, l := range texts {
			for _, other := range words {
				if l.meets(other) {
					t.Fatalf("a text that is told of %+v is a piece of what was handed in", g)
				}
			}
		}
	}
}

// Two schemas made of one are apart.
func TestTwoOfOneSchema(t *testing.T) {
	s := town(t)
	for _, pair := range [][2]string{
		{"create table a(k int)", "create table b(k int)"},
		{"create index on t(x)", "create index on both(t)"},
		{"create index on t(x)", "create table b(k int)"},
		{"create view a strip as select * from t", "create closure b strip as delete from t"},
	} {
		left, right := more(t, s, pair[0]), more(t, s, pair[1])
		was := bare(reflect.ValueOf(left)).Interface()
		spoil(reflect.ValueOf(&right).Elem())
		if !reflect.DeepEqual(bare(reflect.ValueOf(left)).Interface(), was) || !same(s, town(t)) {
			t.Errorf("%q and %q meet", pair[0], pair[1])
		}
	}
}

// R4: a call hangs on what it is handed alone

func TestTheSameEachTime(t *testing.T) {
	for _, x := range asked(t) {
		want := ask(x)
		schema.Add(api.Schema{}, api.Stmt{}, nil)
		if got := ask(withRoom(x)); !same(got, want) {
			t.Fatalf("%+v, and then %+v", want, got)
		}
	}
}
