package schema_test

import (
	"slices"
	"testing"

	"quarantine/api"
	"quarantine/label"
	"quarantine/own"
	"quarantine/schema"
)

// reason is a sentence of the chapter: its error, and whether it holds.
type reason struct {
	err   api.Errno
	holds bool
}

func first(l ...reason) api.Errno {
	for _, r := range l {
		if r.holds {
			return r.err
		}
	}
	return api.OK
}

// why tells all sentences of P9.1 on st, in their order, each looked at by itself.
func why(s api.Schema, st api.Stmt, owns api.Label) []reason {
	switch st.Kind {
	case api.StTable:
		l := []reason{
			{api.ErrName, slices.Contains(tableNames(s), st.Name)},
			{api.ErrFull, len(s.Tables) >= api.MaxTables},
			{api.ErrLong, len(st.Cols) < 1 || len(st.Cols) > api.MaxCols},
		}
		for i := range st.Cols {
			l = append(l, whyColumn(s, st.Cols, i)...)
		}
		return l
	case api.StIndex:
		at := slices.Index(tableNames(s), st.Table)
		if at < 0 {
			return []reason{{api.ErrTable, true}}
		}
		names := columnNames(s.Tables[at])
		return []reason{
			{api.ErrColumn, !slices.Contains(names, st.Name)},
			{api.ErrName, slices.Contains(s.Tables[at].Index, st.Name) || slices.Index(names, st.Name) == 0},
		}
	case api.StView, api.StClosure:
		inner := map[int][]int{api.StView: {api.StSelect}, api.StClosure: {api.StInsert, api.StUpdate, api.StDelete}}[st.Kind]
		e := own.May(owns, st.Tags)
		return []reason{
			{api.ErrName, slices.Contains(viewNames(s), st.Name)},
			{api.ErrFull, len(s.Views) >= api.MaxViews},
			{e, e != api.OK},
			{api.ErrArg, len(st.Inner) != 1},
			{api.ErrArg, len(st.Inner) > 0 && !slices.Contains(inner, st.Inner[0].Kind)},
		}
	}
	return []reason{{api.ErrArg, true}}
}

func whyColumn(s api.Schema, cols []api.Col, i int) []reason {
	c := cols[i]
	to := slices.Index(tableNames(s), c.Ref)
	var taken, other, unlike bool
	for _, ahead := range cols[:i] {
		taken = taken || ahead.Name == c.Name
		other = other || ahead.Ref != ""
	}
	if to >= 0 {
		unlike = len(s.Tables[to].Cols) == 0 || s.Tables[to].Cols[0].Kind != c.Kind
	}
	l := []reason{{api.ErrName, taken}, {api.ErrType, c.Kind != api.Int && c.Kind != api.Text}}
	if c.Ref == "" {
		return l
	}
	return append(l, reason{api.ErrForeign, i == 0}, reason{api.ErrForeign, other}, reason{api.ErrTable, to < 0}, reason{api.ErrType, unlike})
}

func columnNames(t api.Table) []string {
	var l []string
	for _, c := range t.Cols {
		l = append(l, c.Name)
	}
	return l
}

// plainly tells what Add tells, by the chapter's sentences one by one.
func plainly(s api.Schema, st api.Stmt, owns api.Label) (api.Schema, api.Errno) {
	if e := first(why(s, st, owns)...); e != api.OK {
		return api.Schema{}, e
	}
	next := api.Schema{Tables: slices.Clone(s.Tables), Views: slices.Clone(s.Views)}
	switch st.Kind {
	case api.StTable:
		next.Tables = append(next.Tables, api.Table{Name: st.Name, Cols: st.Cols})
	case api.StIndex:
		x := &next.Tables[slices.Index(tableNames(s), st.Table)]
		x.Index = append(slices.Clone(x.Index), st.Name)
	default:
		strip, _ := label.Norm(st.Tags)
		next.Views = append(next.Views, api.View{Name: st.Name, Strip: strip, Do: st.Inner[0]})
	}
	return next, api.OK
}

// grown tells a statement that may often be added, and often not, by one reason or several.
func grown(d *dice) api.Stmt {
	name := func() string { return letter(d.next(12)) }
	st := api.Stmt{Kind: pick(d, api.StTable, api.StTable, api.StTable, api.StIndex, api.StIndex, api.StView, api.StClosure), Name: name()}
	if d.next(40) == 0 {
		st.Kind = d.next(17) - 1
	}
	switch st.Kind {
	case api.StTable:
		for i := range pick(d, 1, 2, 2, 3, 3, 4, 5, 6, 6, 7, 0) {
			c := api.Col{Name: letter(i), Kind: pick(d, api.Int, api.Text)}
			if d.next(12) == 0 {
				c.Name = letter(d.next(6))
			}
			if d.next(25) == 0 {
				c.Kind = d.next(6) - 1
			}
			if i > 0 && d.next(3) == 0 || d.next(30) == 0 {
				c.Ref = name()
			}
			st.Cols = append(st.Cols, c)
		}
	case api.StIndex:
		st.Table, st.Name = name(), letter(d.next(5))
	default:
		for range pick(d, 0, 0, 1, 1, 2, 3, 9, 12) {
			st.Tags = append(st.Tags, uint16(pick(d, 1, 1, 5, 5, 1, 5, d.next(12))))
		}
		for range pick(d, 1, 1, 1, 1, 1, 0, 2) {
			kind := pick(d, api.StSelect, api.StInsert, api.StUpdate, api.StDelete, d.next(16)-1)
			st.Inner = append(st.Inner, api.Stmt{Kind: kind, Table: name(), Where: []api.Expr{{Op: api.ExCol, Name: name()}}})
		}
	}
	return st
}

// well asks of s what holds of each schema that Add makes.
func well(t *testing.T, s api.Schema) {
	t.Helper()
	if len(s.Tables) > api.MaxTables || len(s.Views) > api.MaxViews {
		t.Fatalf("%d tables, %d views", len(s.Tables), len(s.Views))
	}
	for i, x := range s.Tables {
		if len(x.Cols) < 1 || len(x.Cols) > api.MaxCols {
			t.Fatalf("%d columns: %+v", len(x.Cols), x)
		}
		for place, c := range x.Cols {
			to := slices.Index(tableNames(s), c.Ref)
			if c.Ref != "" && (place == 0 || to < 0 || to >= i || s.Tables[to].Cols[0].Kind != c.Kind) {
				t.Fatalf("table %d refers to table %d: %+v", i, to, s.Tables)
			}
			if c.Ref != "" && !slices.Contains(schema.Refs(s, c.Ref), x.Name) {
				t.Fatalf("Refs(%q) is without %q", c.Ref, x.Name)
			}
			if got := schema.Column(x, c.Name); got != place {
				t.Fatalf("Column(%q) is %d of %+v", c.Name, got, x)
			}
			if got := schema.Indexed(x, c.Name); got != (place == 0 || slices.Contains(x.Index, c.Name)) {
				t.Fatalf("Indexed(%q) is %v of %+v", c.Name, got, x)
			}
		}
		if got, is := schema.Table(s, x.Name); !is || !same(got, x) {
			t.Fatalf("Table(%q) is %+v, not %+v", x.Name, got, x)
		}
		for _, by := range schema.Refs(s, x.Name) {
			if slices.Index(tableNames(s), by) <= i {
				t.Fatalf("%q refers to %q, which is not ahead of it", by, x.Name)
			}
		}
	}
	for _, v := range s.Views {
		if got, is := schema.View(s, v.Name); !is || !same(got, v) || !label.May(got.Strip) {
			t.Fatalf("View(%q) is %+v, not %+v", v.Name, got, v)
		}
	}
}

// P9.1, what follows: many schemas, statement by statement, held against the chapter's sentences

func TestGrownSchemas(t *testing.T) {
	d := dice(2)
	told := map[api.Errno]int{}
	for range 400 {
		var s api.Schema
		for range 60 {
			st := grown(&d)
			want, e := plainly(s, st, owned)
			told[e]++
			if e != api.OK {
				fails(t, s, st, owned, e)
				continue
			}
			adds(t, s, st, owned, want)
			s, _ = schema.Add(s, st, owned)
			well(t, s)
		}
		if t.Failed() {
			return
		}
	}
	for _, e := range []api.Errno{api.OK, api.ErrArg, api.ErrName, api.ErrFull, api.ErrLong, api.ErrType, api.ErrForeign, api.ErrTable, api.ErrColumn, api.ErrOwn} {
		if told[e] < 20 {
			t.Errorf("%d is told but %d times", e, told[e])
		}
	}
}
