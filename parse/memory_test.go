package parse_test

import (
	"reflect"
	"strings"
	"testing"
	"unsafe"

	"quarantine/api"
	"quarantine/parse"
)

// span is memory, from its first byte to behind its last.
type span struct{ from, to uintptr }

func (a span) meets(b span) bool { return a.from < b.to && b.from < a.to }

// spans tells the memory of each list (spare room too) and of each text in v.
func spans(v reflect.Value) (lists, texts []span) {
	switch v.Kind() {
	case reflect.String:
		if v.Len() > 0 {
			at := uintptr(unsafe.Pointer(unsafe.StringData(v.String())))
			texts = append(texts, span{at, at + uintptr(v.Len())})
		}
	case reflect.Slice:
		if v.Cap() > 0 {
			lists = append(lists, span{v.Pointer(), v.Pointer() + uintptr(v.Cap())*v.Type().Elem().Size()})
		}
		for i := range v.Len() {
			l, x := spans(v.Index(i))
			lists, texts = append(lists, l...), append(texts, x...)
		}
	case reflect.Struct:
		for i := range v.NumField() {
			l, x := spans(v.Field(i))
			lists, texts = append(lists, l...), append(texts, x...)
		}
	}
	return lists, texts
}

// R3: what is told is new memory, of which no two lists share any

func TestNothingIsShared(t *testing.T) {
	for _, x := range samples() {
		first, _, _ := parse.Parse(x.text)
		second, _, _ := parse.Parse(x.text)
		lists, texts := spans(reflect.ValueOf(first))
		others, _ := spans(reflect.ValueOf(second))
		for i, a := range lists {
			for _, b := range append(lists[i+1:len(lists):len(lists)], others...) {
				if a.meets(b) {
					t.Errorf("two lists of Parse(%q) share memory", x.text)
				}
			}
		}
		given := uintptr(unsafe.Pointer(unsafe.StringData(x.text)))
		for _, a := range texts {
			if a.meets(span{given, given + uintptr(len(x.text))}) {
				t.Errorf("Parse(%q) hands out a piece of it", x.text)
			}
		}
	}
}

// R3: what is handed in stays as it was, and is not kept

func TestWhatIsHandedInStays(t *testing.T) {
	texts := []string{"commit x", "raise 65536", "1a", "delete from t where " + strings.Repeat("(", api.MaxNest+1)}
	for _, x := range samples() {
		texts = append(texts, x.text)
	}
	for _, s := range texts {
		bytes := []byte(s)
		given := unsafe.String(&bytes[0], len(bytes))
		want, _, _ := parse.Parse(strings.Clone(s))
		st, _, _ := parse.Parse(given)
		if string(bytes) != s {
			t.Errorf("Parse(%q) changed it to %q", s, bytes)
		}
		for i := range bytes {
			bytes[i] = 'z'
		}
		if !reflect.DeepEqual(st, want) {
			t.Errorf("what Parse(%q) told is %s when its bytes are others, not %s", s, brief(st), brief(want))
		}
	}
}

// R4: a call hangs on what it is handed alone

func TestTheSameEachTime(t *testing.T) {
	for _, x := range samples() {
		parse.Parse("delete from t where " + strings.Repeat("(", api.MaxNest+1))
		parse.Parse("raise 1, 2, 70000")
		good(t, x.text, x.want)
		good(t, x.text, x.want)
	}
}
