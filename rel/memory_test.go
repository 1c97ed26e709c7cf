package rel_test

import (
	"reflect"
	"strings"
	"testing"
	"unsafe"

	"quarantine/api"
	"quarantine/rel"
)

// asked tells many that may be handed in: with all errors, of those that fit and of others.
func asked(t *testing.T) []given {
	var out []given
	d := dice(11)
	for range 500 {
		out = append(out, grown(t, &d), strange(t, &d))
	}
	return out
}

// told is what both calls tell of one that is handed in.
type told struct {
	Selected, Rising, Falling [][]api.Value
	Err                       api.Errno
}

func ask(g given) told {
	var a told
	a.Selected, a.Err = g.selected()
	a.Rising, a.Falling = rel.Sort(g.Lrows, 1, false), rel.Sort(g.Rrows, 0, true)
	return a
}

// roomy tells a copy of v that shares no memory with it, in which each list has spare room, and something in it.
func roomy(v reflect.Value) reflect.Value {
	out := reflect.New(v.Type()).Elem()
	switch v.Kind() {
	case reflect.String:
		out.SetString(strings.Clone(v.String()))
	case reflect.Slice:
		out = reflect.MakeSlice(v.Type(), v.Len()+2, v.Len()+2)
		for i := range v.Len() {
			out.Index(i).Set(roomy(v.Index(i)))
		}
		for i := v.Len(); i < out.Cap(); i++ {
			spoil(out.Index(i))
		}
		out = out.Slice3(0, v.Len(), out.Cap())
	case reflect.Struct:
		for i := range v.NumField() {
			out.Field(i).Set(roomy(v.Field(i)))
		}
	default:
		out.Set(v)
	}
	return out
}

func withRoom[T any](x T) T { return roomy(reflect.ValueOf(x)).Interface().(T) }

// spoil makes all of v another, with all that its lists have, spare room too.
func spoil(v reflect.Value) {
	switch v.Kind() {
	case reflect.String:
		v.SetString(v.String() + "?")
	case reflect.Slice:
		whole := v.Slice(0, v.Cap())
		for i := range whole.Len() {
			spoil(whole.Index(i))
		}
	case reflect.Struct:
		for i := range v.NumField() {
			spoil(v.Field(i))
		}
	case reflect.Bool:
		v.SetBool(!v.Bool())
	case reflect.Uint16:
		v.SetUint(v.Uint() + 1)
	default:
		v.SetInt(v.Int() + 1)
	}
}

// inside tells all of v as it stands, the spare room of its lists as if it were in them.
func inside(v reflect.Value) any {
	var l []any
	switch v.Kind() {
	case reflect.Slice:
		l = append(l, v.Len())
		for i := range v.Cap() {
			l = append(l, inside(v.Slice(0, v.Cap()).Index(i)))
		}
	case reflect.Struct:
		for i := range v.NumField() {
			l = append(l, inside(v.Field(i)))
		}
	default:
		return v.Interface()
	}
	return l
}

func inOf(x any) any { return inside(reflect.ValueOf(x)) }

// R3: what is handed in stays as it was, spare room too; what stands in the spare room says nothing

func TestWhatIsHandedInStays(t *testing.T) {
	for _, x := range asked(t) {
		g, was := withRoom(x), withRoom(x)
		if a, b := ask(g), ask(x); !reflect.DeepEqual(a, b) {
			t.Fatalf("%s with spare room, and %s without, of %s", brief(a), brief(b), brief(x))
		}
		if !reflect.DeepEqual(inOf(g), inOf(was)) {
			t.Fatalf("%s became %s", brief(was), brief(g))
		}
	}
}

// R3: what is told shares no memory with what was handed in, either way round

func TestWhatIsToldIsNewMemory(t *testing.T) {
	for _, x := range asked(t) {
		g := withRoom(x)
		a := ask(g)
		was := withRoom(a)
		spoil(reflect.ValueOf(&g).Elem())
		if !reflect.DeepEqual(a, was) && !same(a, was) {
			t.Fatalf("%s became %s", brief(was), brief(a))
		}
		g = withRoom(x)
		a, before := ask(g), inOf(g)
		spoil(reflect.ValueOf(&a).Elem())
		if !reflect.DeepEqual(inOf(g), before) {
			t.Fatalf("%s became %s", brief(x), brief(g))
		}
	}
}

// same tells whether both are alike, where nil and an empty list are one.
func same(a, b told) bool {
	return shown(a.Selected) == shown(b.Selected) && shown(a.Rising) == shown(b.Rising) && shown(a.Falling) == shown(b.Falling) && a.Err == b.Err
}

// R3: no two lists of one answer share memory, spare room too

func TestRowsThatAreToldShareNothing(t *testing.T) {
	for _, x := range asked(t) {
		a := ask(x)
		for _, rows := range [][][]api.Value{a.Selected, a.Rising, a.Falling} {
			for i := range rows {
				was := withRoom(rows)
				spoil(reflect.ValueOf(&rows[i]).Elem())
				was[i], rows[i] = nil, nil
				if shown(rows) != shown(was) {
					t.Fatalf("%s became %s, of %s", shown(was), shown(rows), brief(x))
				}
			}
		}
	}
}

// R3: each text that is told is new memory

func TestTextsAreNewMemory(t *testing.T) {
	left, right := table("t", "k int", "x text"), table("u", "r int", "y text")
	g := given{Left: left, Right: right, Lrows: [][]api.Value{{whole(1), written("some")}, {whole(2), written("others")}}, Rrows: [][]api.Value{{whole(1), written("theirs")}}}
	old := map[*byte]bool{}
	for _, r := range [][]api.Value{g.Lrows[0], g.Lrows[1], g.Rrows[0]} {
		old[unsafe.StringData(r[1].Text)] = true
	}
	check := func(of string, rows [][]api.Value) {
		seen := map[*byte]bool{}
		for _, r := range rows {
			for _, v := range r {
				if p := unsafe.StringData(v.Text); v.Kind == api.Text && (old[p] || seen[p]) {
					t.Errorf("%q that %s comes to shares its text", v.Text, of)
				} else {
					seen[p] = true
				}
			}
		}
		if len(seen) < 2 {
			t.Errorf("%s comes to %s", of, shown(rows))
		}
	}
	for _, text := range []string{"select * from t", "select x, x, k from t", "select x from t where k > 0 order by x desc", "select * from t join u on k = r", "select y, x, y from t join u on r = r", "select min(x), max(x), max(x) from t", "select min(y), max(y) from t join u on k = r"} {
		g.St = stmt(t, text)
		got, e := g.selected()
		if e != api.OK {
			t.Fatalf("%q comes to %d", text, e)
		}
		check(text, got)
	}
	for by := -1; by < 3; by++ {
		check("a sort", rel.Sort(g.Lrows, by, by == 0))
	}
}

// R3, R4: nothing is kept: a call hangs on what it is handed alone, whatever became of what was handed in before

func TestTheSameEachTime(t *testing.T) {
	for _, x := range asked(t) {
		g := withRoom(x)
		want := ask(g)
		spoil(reflect.ValueOf(&g).Elem())
		ask(g)
		if got := ask(x); !same(got, want) {
			t.Fatalf("%s, and then %s, of %s", brief(want), brief(got), brief(x))
		}
	}
}
