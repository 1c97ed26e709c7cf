package schema_test

import (
	"math"
	"slices"
	"testing"

	"quarantine/api"
	"quarantine/label"
	"quarantine/own"
)

// doorKinds are those of views and of closures, each with one statement that may stand there.
func doorKinds() map[int]api.Stmt {
	return map[int]api.Stmt{
		api.StView:    {Kind: api.StSelect, Table: "t"},
		api.StClosure: {Kind: api.StDelete, Table: "t"},
	}
}

// P9.1 StView, StClosure: what is added

func TestDoors(t *testing.T) {
	s := made(t, "create table t(k int, x text)")
	for i, x := range []struct {
		name, strip, do string
		want            api.Label
	}{
		{"v", "", "select * from t", nil},
		{"w", "5, 1, 5", "select max(k), count(*) from t join u on t.k = u.r where not x = 'it''s' and k < -1", api.Label{1, 5}},
		{"a", "1", "select x from t order by t.k desc", api.Label{1}},
		{"c", "5", "insert into t values(1, 'a')", api.Label{5}},
		{"d", "1, 5", "update t set x = 'b' where k = 1 + 2", api.Label{1, 5}},
		{"b", "", "delete from t where k * 2 > 4", nil},
		{"t", "", "delete from t", nil},
	} {
		text := "create closure "
		if do := stmt(t, x.do); do.Kind == api.StSelect {
			text = "create view "
		}
		want := api.View{Name: x.name, Strip: x.want, Do: stmt(t, x.do)}
		next := more(t, s, text+x.name+" strip "+x.strip+" as "+x.do)
		if !same(next, api.Schema{Tables: s.Tables, Views: append(slices.Clone(s.Views), want)}) || len(next.Views) != i+1 {
			t.Errorf("%s: %+v", x.do, next)
		}
		s = next
	}
}

// What Inner says is not looked at, and stands there as it is.
func TestWhatStandsWithinStays(t *testing.T) {
	for kind, do := range doorKinds() {
		do.Table, do.Name, do.Join, do.Desc = "none", "such", "u", true
		do.Cols, do.Tags = []api.Col{{Kind: 9}}, []uint16{3, 1, 3}
		do.Items = []api.Item{{Agg: -1, Table: "a", Name: "b"}}
		deep := api.Expr{Op: 77, Value: api.Value{Kind: 9, Int: -1, Text: "\xff"}, Args: []api.Expr{{Op: api.ExNot, Name: "n"}, {Table: "t"}}}
		do.Values, do.On, do.Where, do.Order = []api.Expr{deep}, []api.Expr{deep, deep, deep}, []api.Expr{{}, deep}, []api.Expr{deep, {}}
		do.Inner = []api.Stmt{{Kind: -1, Where: []api.Expr{deep}}, {}}
		adds(t, api.Schema{}, door(kind, "v", do), nil, api.Schema{Views: []api.View{{Name: "v", Do: do}}})
	}
}

// What stands in fields that a door does not have says nothing.
func TestDoorsWithOtherFields(t *testing.T) {
	for kind, do := range doorKinds() {
		st := door(kind, "v", do)
		st.Table, st.Join, st.Desc, st.Cols, st.Items = "u", "u", true, make([]api.Col, 9), make([]api.Item, 2)
		st.Values, st.On, st.Where, st.Order = make([]api.Expr, 3), make([]api.Expr, 3), make([]api.Expr, 3), make([]api.Expr, 3)
		adds(t, api.Schema{}, st, nil, api.Schema{Views: []api.View{{Name: "v", Do: do}}})
	}
}

// P9.1 StView, StClosure: names, which tables have beside them

func TestDoorsNameByName(t *testing.T) {
	s := made(t, "create table t(k int)", "create view v strip as select * from t", "create closure c strip as delete from t")
	for kind, do := range doorKinds() {
		for _, name := range []string{"v", "c"} {
			fails(t, s, door(kind, name, do), owned, api.ErrName)
		}
		for _, name := range []string{"t", "k", "vc", "w", ""} {
			adds(t, s, door(kind, name, do), owned, api.Schema{Tables: s.Tables, Views: append(slices.Clone(s.Views), api.View{Name: name, Do: do})})
		}
	}
}

// P9.1 StView, StClosure: how many

func TestManyDoors(t *testing.T) {
	for kind, do := range doorKinds() {
		s := filled(t, made(t, "create table t(k int)"), api.MaxTables)
		for n := range api.MaxViews {
			s = doored(t, s, n)
			next := api.Schema{Tables: s.Tables, Views: append(slices.Clone(s.Views), api.View{Name: "last", Do: do})}
			adds(t, s, door(kind, "last", do), nil, next)
			if n == api.MaxViews-1 {
				fails(t, next, door(kind, "more", do), nil, api.ErrFull)
			}
		}
		s = doored(t, s, api.MaxViews)
		fails(t, s, door(kind, "more", do), nil, api.ErrFull)
		s.Views = append(slices.Clone(s.Views), api.View{Name: "one more"})
		fails(t, s, door(kind, "more", do), nil, api.ErrFull)
	}
}

// P9.1 StView, StClosure: own.May's errors of Tags, and what is stripped

func TestTags(t *testing.T) {
	eight := api.Label{0, 1, 2, 255, 256, 258, 40000, 65535}
	nine := append(slices.Clone(eight), 7)
	turned := slices.Clone(eight)
	slices.Reverse(turned)
	for kind, do := range doorKinds() {
		for _, x := range []struct {
			owns api.Label
			tags []uint16
			want api.Errno
		}{
			{nil, nil, api.OK},
			{api.Label{}, []uint16{}, api.OK},
			{owned, nil, api.OK},
			{owned, []uint16{1}, api.OK},
			{owned, []uint16{5}, api.OK},
			{owned, []uint16{1, 5}, api.OK},
			{owned, []uint16{5, 1}, api.OK},
			{owned, []uint16{5, 5, 1, 5, 1, 1, 5, 5, 1, 5}, api.OK},
			{api.Label{0}, []uint16{0}, api.OK},
			{eight, eight, api.OK},
			{eight, turned, api.OK},
			{eight, append(slices.Clone(turned), eight...), api.OK},
			{api.Label{7}, slices.Repeat([]uint16{7}, 70000), api.OK},
			{nil, []uint16{0}, api.ErrOwn},
			{owned, []uint16{2}, api.ErrOwn},
			{owned, []uint16{1, 2, 5}, api.ErrOwn},
			{owned, []uint16{257}, api.ErrOwn},
			{eight[1:], eight, api.ErrOwn},
			{eight, nine, api.ErrLong},
			{nine, nine, api.ErrLong},
			{nil, nine, api.ErrLong},
		} {
			st := door(kind, "v", do)
			st.Tags = x.tags
			if e := own.May(x.owns, x.tags); e != x.want {
				t.Fatalf("own.May(%v, %v) is %d", x.owns, x.tags, e)
			}
			if x.want != api.OK {
				fails(t, api.Schema{}, st, x.owns, x.want)
				continue
			}
			strip, _ := label.Norm(x.tags)
			adds(t, api.Schema{}, st, x.owns, api.Schema{Views: []api.View{{Name: "v", Strip: strip, Do: do}}})
		}
	}
}

// P9.1 StView, StClosure: what may stand within

func TestWhatMayStandWithin(t *testing.T) {
	may := map[int][]int{api.StView: {api.StSelect}, api.StClosure: {api.StInsert, api.StUpdate, api.StDelete}}
	kinds := []int{math.MinInt, -1, math.MaxInt}
	for kind := range api.StCall + 3 {
		kinds = append(kinds, kind)
	}
	for kind, inside := range may {
		for _, inner := range kinds {
			do := api.Stmt{Kind: inner, Table: "t"}
			if slices.Contains(inside, inner) {
				adds(t, api.Schema{}, door(kind, "v", do), nil, api.Schema{Views: []api.View{{Name: "v", Do: do}}})
			} else {
				fails(t, api.Schema{}, door(kind, "v", do), nil, api.ErrArg)
			}
			// Two, or three, may not, nor does one that may stand there save another.
			for _, other := range inside {
				good := api.Stmt{Kind: other, Table: "t"}
				fails(t, api.Schema{}, door(kind, "v", do, good), nil, api.ErrArg)
				fails(t, api.Schema{}, door(kind, "v", good, do), nil, api.ErrArg)
				fails(t, api.Schema{}, door(kind, "v", good, good, do), nil, api.ErrArg)
			}
		}
		fails(t, api.Schema{}, door(kind, "v"), nil, api.ErrArg)
		fails(t, api.Schema{}, api.Stmt{Kind: kind, Name: "v", Inner: []api.Stmt{}}, nil, api.ErrArg)
	}
}

// P9.1 StView, StClosure, R2: of several errors the first that is named

func TestWhichErrorOfADoor(t *testing.T) {
	s := made(t, "create table t(k int)", "create view v strip as select * from t")
	full := doored(t, s, api.MaxViews)
	tooMany := []uint16{1, 2, 3, 4, 5, 6, 7, 8, 9}
	for kind, do := range doorKinds() {
		broken := func(name string) []api.Stmt {
			return []api.Stmt{
				{Kind: kind, Name: name, Tags: tooMany, Inner: []api.Stmt{do}},
				{Kind: kind, Name: name, Tags: []uint16{2}, Inner: []api.Stmt{do}},
				{Kind: kind, Name: name},
				{Kind: kind, Name: name, Tags: tooMany},
				{Kind: kind, Name: name, Tags: []uint16{2}, Inner: []api.Stmt{do, do}},
			}
		}
		for _, st := range broken("v") {
			fails(t, s, st, owned, api.ErrName)
			fails(t, full, st, owned, api.ErrName)
		}
		fails(t, full, door(kind, "v", do), owned, api.ErrName)
		for _, st := range broken("a") {
			fails(t, full, st, owned, api.ErrFull)
		}
		for i, want := range []api.Errno{api.ErrLong, api.ErrOwn, api.ErrArg, api.ErrLong, api.ErrOwn} {
			fails(t, s, broken("a")[i], owned, want)
		}
		fails(t, s, api.Stmt{Kind: kind, Name: "a", Tags: []uint16{1}, Inner: []api.Stmt{{Kind: api.StCall}}}, owned, api.ErrArg)
		fails(t, s, api.Stmt{Kind: kind, Name: "a", Tags: []uint16{2}, Inner: []api.Stmt{{Kind: api.StCall}}}, owned, api.ErrOwn)
	}
}
