package schema_test

import (
	"reflect"
	"slices"
	"strings"
	"testing"

	"quarantine/api"
	"quarantine/parse"
	"quarantine/schema"
)

// owned are the tags of who makes the doors of these tests.
var owned = api.Label{1, 5}

// stmt tells the statement of a text.
func stmt(t *testing.T, text string) api.Stmt {
	t.Helper()
	st, at, e := parse.Parse(text)
	if e != api.OK {
		t.Fatalf("Parse(%q) is %d at %d", text, e, at)
	}
	return st
}

// more tells s with what these texts add, one after the other.
func more(t *testing.T, s api.Schema, texts ...string) api.Schema {
	t.Helper()
	for _, text := range texts {
		next, e := schema.Add(s, stmt(t, text), owned)
		if e != api.OK {
			t.Fatalf("Add of %q is %d", text, e)
		}
		s = next
	}
	return s
}

func made(t *testing.T, texts ...string) api.Schema {
	t.Helper()
	return more(t, api.Schema{}, texts...)
}

// same tells whether a and b are alike, where nil and an empty list are one.
func same[T any](a, b T) bool {
	return reflect.DeepEqual(bare(reflect.ValueOf(a)).Interface(), bare(reflect.ValueOf(b)).Interface())
}

// bare tells a copy of v that shares no memory with it, and has nil for empty lists.
func bare(v reflect.Value) reflect.Value {
	out := reflect.New(v.Type()).Elem()
	switch v.Kind() {
	case reflect.String:
		out.SetString(strings.Clone(v.String()))
	case reflect.Slice:
		for i := range v.Len() {
			out = reflect.Append(out, bare(v.Index(i)))
		}
	case reflect.Struct:
		for i := range v.NumField() {
			out.Field(i).Set(bare(v.Field(i)))
		}
	default:
		out.Set(v)
	}
	return out
}

// adds asks that Add of st is want.
func adds(t *testing.T, s api.Schema, st api.Stmt, owns api.Label, want api.Schema) {
	t.Helper()
	got, e := schema.Add(s, st, owns)
	if e != api.OK || !same(got, want) {
		t.Errorf("Add of %+v is %d and %+v, not %+v", st, e, got, want)
	}
}

// fails asks for this error of st, and nothing beside it (R2).
func fails(t *testing.T, s api.Schema, st api.Stmt, owns api.Label, want api.Errno) {
	t.Helper()
	got, e := schema.Add(s, st, owns)
	if e != want {
		t.Errorf("Add of %+v is %d, not %d", st, e, want)
	}
	if !same(got, api.Schema{}) {
		t.Errorf("Add of %+v tells %+v beside %d", st, got, e)
	}
}

// failsText asks for this error of each text.
func failsText(t *testing.T, s api.Schema, want map[string]api.Errno) {
	t.Helper()
	for text, e := range want {
		fails(t, s, stmt(t, text), owned, e)
	}
}

// letter tells a name that no two numbers below 26 share, and no other name of these tests.
func letter(n int) string { return "x" + string(rune('a'+n)) }

// filled tells s with as many tables more as make it so many.
func filled(t *testing.T, s api.Schema, tables int) api.Schema {
	t.Helper()
	for i := len(s.Tables); i < tables; i++ {
		s = more(t, s, "create table "+letter(i)+"(k int)")
	}
	return s
}

// doored tells s with as many views and closures more as make them so many.
func doored(t *testing.T, s api.Schema, views int) api.Schema {
	t.Helper()
	for i := len(s.Views); i < views; i++ {
		if i%2 == 0 {
			s = more(t, s, "create view "+letter(i)+" strip as select * from t")
		} else {
			s = more(t, s, "create closure "+letter(i)+" strip as delete from t")
		}
	}
	return s
}

// table is a create table.
func table(name string, cols ...api.Col) api.Stmt {
	return api.Stmt{Kind: api.StTable, Name: name, Cols: cols}
}

func number(name string) api.Col { return api.Col{Name: name, Kind: api.Int} }

func letters(name string) api.Col { return api.Col{Name: name, Kind: api.Text} }

// numbers tells so many columns of numbers.
func numbers(n int) []api.Col {
	var l []api.Col
	for i := range n {
		l = append(l, number(letter(i)))
	}
	return l
}

// ref tells a column that refers to a table.
func ref(name string, kind int, to string) api.Col {
	return api.Col{Name: name, Kind: kind, Ref: to}
}

// door is a create view, or a create closure, that strips nothing.
func door(kind int, name string, inner ...api.Stmt) api.Stmt {
	return api.Stmt{Kind: kind, Name: name, Inner: inner}
}

func tableNames(s api.Schema) []string {
	var l []string
	for _, t := range s.Tables {
		l = append(l, t.Name)
	}
	return l
}

func viewNames(s api.Schema) []string {
	var l []string
	for _, v := range s.Views {
		l = append(l, v.Name)
	}
	return l
}

// dice is a row of numbers that looks like chance, and is the same each time.
type dice uint32

func (d *dice) next(n int) int {
	*d = *d*1664525 + 1013904223
	return int(*d>>16) % n
}

func pick[T any](d *dice, l ...T) T { return l[d.next(len(l))] }

// changed tells a copy of l to which that was done.
func changed[T any](l []T, do func([]T)) []T {
	l = slices.Clone(l)
	do(l)
	return l
}
