package rel_test

import (
	"math"
	"math/big"
	"slices"
	"strings"
	"testing"

	"quarantine/api"
	"quarantine/eval"
	"quarantine/rel"
	"quarantine/typed"
)

func sortedBy(rows [][]api.Value, by int, desc bool) [][]api.Value { return rel.Sort(rows, by, desc) }

// stands tells where b stands by a, said anew: an Int ahead of a Text.
func stands(a, b api.Value) int {
	if a.Kind != b.Kind {
		return a.Kind - b.Kind
	}
	if a.Kind == api.Int {
		return big.NewInt(a.Int).Cmp(big.NewInt(b.Int))
	}
	return strings.Compare(a.Text, b.Text)
}

// plain is a second reading of the chapter: all pairs of rows first, each as a row, and then sentence by sentence what is left of them.
type plain struct {
	cols []api.Item
	rows [][]api.Value
}

func (p *plain) add(t api.Table) {
	for _, c := range t.Cols {
		p.cols = append(p.cols, api.Item{Table: t.Name, Name: c.Name})
	}
}

// value tells a row's value of the column of that name.
func (p *plain) value(r []api.Value, table, name string) api.Value {
	for i, c := range p.cols {
		if c.Name == name && (table == "" || table == c.Table) {
			return r[i]
		}
	}
	panic("no such column")
}

func (p *plain) of(r []api.Value, e api.Expr) api.Value { return p.value(r, e.Table, e.Name) }

func plainly(g given) ([][]api.Value, api.Errno) {
	var p plain
	p.add(g.Left)
	all := g.Lrows
	if g.St.Join != "" {
		p.add(g.Right)
		all = nil
		for _, l := range g.Lrows {
			for _, r := range g.Rrows {
				if two := slices.Concat(l, r); stands(p.of(two, g.St.On[0]), p.of(two, g.St.On[1])) == 0 {
					all = append(all, two)
				}
			}
		}
	}
	for _, r := range all {
		if len(g.St.Where) == 1 {
			v, e := eval.Eval(p.cols, r, g.St.Where[0])
			if e != api.OK {
				return nil, e
			}
			if v.Int != 1 {
				continue
			}
		}
		p.rows = append(p.rows, r)
	}
	if len(g.St.Items) > 0 && g.St.Items[0].Agg != api.AggNone {
		return p.folded(g.St.Items)
	}
	return p.listed(g.St), api.OK
}

func (p *plain) listed(st api.Stmt) [][]api.Value {
	rows := p.rows
	if len(st.Order) == 1 {
		e := st.Order[0]
		rows = inserted(rows, func(a, b []api.Value) bool {
			if st.Desc {
				a, b = b, a
			}
			return stands(p.of(a, e), p.of(b, e)) < 0
		})
	}
	if len(st.Items) == 0 {
		return rows
	}
	var out [][]api.Value
	for _, r := range rows {
		var one []api.Value
		for _, it := range st.Items {
			one = append(one, p.value(r, it.Table, it.Name))
		}
		out = append(out, one)
	}
	return out
}

func (p *plain) folded(items []api.Item) ([][]api.Value, api.Errno) {
	var out []api.Value
	for _, it := range items {
		if it.Agg == api.AggCount {
			out = append(out, whole(int64(len(p.rows))))
			continue
		}
		var l []api.Value
		for _, r := range p.rows {
			l = append(l, p.value(r, it.Table, it.Name))
		}
		if it.Agg == api.AggSum {
			sum := new(big.Int)
			for _, v := range l {
				if sum.Add(sum, big.NewInt(v.Int)); !sum.IsInt64() {
					return nil, api.ErrOverflow
				}
			}
			out = append(out, whole(sum.Int64()))
			continue
		}
		if len(l) == 0 {
			return nil, api.ErrEmpty
		}
		slices.SortFunc(l, stands)
		if it.Agg == api.AggMax {
			slices.Reverse(l)
		}
		out = append(out, l[0])
	}
	return [][]api.Value{out}, api.OK
}

// valueOf tells a value of that kind, often one of a few, and sometimes one at an edge.
func valueOf(d *dice, kind int) api.Value {
	if kind == api.Text {
		return written(pick(d, "", "a", "ab", "b", "it's", "~"))
	}
	return whole(pick(d, int64(d.next(5)-2), int64(d.next(5)-2), int64(d.next(5)-2), math.MaxInt64, math.MinInt64, 1<<62))
}

// rowsOf tells so many rows of a table.
func rowsOf(d *dice, t api.Table, n int) [][]api.Value {
	var out [][]api.Value
	for range n {
		var r []api.Value
		for _, c := range t.Cols {
			r = append(r, valueOf(d, c.Kind))
		}
		out = append(out, r)
	}
	return out
}

// columnsOf tells all columns of tables, as expressions, with the tables' names.
func columnsOf(tables ...api.Table) (of map[int][]api.Expr) {
	of = map[int][]api.Expr{}
	for _, t := range tables {
		for _, c := range t.Cols {
			of[c.Kind] = append(of[c.Kind], api.Expr{Op: api.ExCol, Table: t.Name, Name: c.Name})
		}
	}
	return of
}

// grown tells a select that fits the town, over rows of it.
func grown(t *testing.T, d *dice) given {
	var g given
	g.Left, g.Right = town()
	g.Lrows, g.Rrows = rowsOf(d, g.Left, d.next(7)), rowsOf(d, g.Right, d.next(7))
	g.St = api.Stmt{Kind: api.StSelect, Table: g.Left.Name}
	of := columnsOf(g.Left)
	if d.next(2) == 0 {
		g.St.Join = g.Right.Name
		of = columnsOf(g.Left, g.Right)
		kind := pick(d, api.Int, api.Text)
		g.St.On = []api.Expr{pick(d, of[kind]...), pick(d, of[kind]...)}
	}
	all := slices.Concat(of[api.Int], of[api.Text])
	folds := d.next(3) == 0
	for range d.next(5) {
		e := pick(d, all...)
		it := api.Item{Table: e.Table, Name: e.Name}
		if folds {
			it = pick(d, api.Item{Agg: api.AggCount}, api.Item{Agg: api.AggMin, Table: e.Table, Name: e.Name}, api.Item{Agg: api.AggMax, Table: e.Table, Name: e.Name})
			if n := pick(d, of[api.Int]...); d.next(3) == 0 {
				it = api.Item{Agg: api.AggSum, Table: n.Table, Name: n.Name}
			}
		}
		g.St.Items = append(g.St.Items, it)
	}
	if !folds && d.next(2) == 0 {
		g.St.Order, g.St.Desc = []api.Expr{pick(d, all...)}, d.next(2) == 0
	}
	if d.next(2) == 0 {
		g.St.Where = where(t, pick(d, "t.k > 0", "a < 1 or x = 'a'", "t.k + 1 <= a", "x > 'a' and a * 2 <> t.k", "not t.k = a", "t.k - a < 5", "1 = 2", "t.k = t.k", "-a < 0"))
	}
	return g
}

// P12.1: many selects that fit, held against its sentences

func TestGrownSelects(t *testing.T) {
	d := dice(8)
	told := map[api.Errno]int{}
	came := map[int]int{}
	for range 60000 {
		g := grown(t, &d)
		if e := typed.Check(g.schema(), g.St); e != api.OK {
			t.Fatalf("Check of %s is %d", brief(g), e)
		}
		want, err := plainly(g)
		told[err]++
		came[min(len(want), 6)]++
		if got, e := g.selected(); shown(got) != shown(want) || e != err {
			t.Fatalf("%s comes to %s, %d, not %s, %d", brief(g), shown(got), e, shown(want), err)
		}
	}
	for _, e := range []api.Errno{api.OK, api.ErrOverflow, api.ErrEmpty} {
		if told[e] < 1000 {
			t.Errorf("%d is told but %d times", e, told[e])
		}
	}
	for n := range 7 {
		if came[n] < 1000 {
			t.Errorf("%d rows come out but %d times", n, came[n])
		}
	}
}
