package typed_test

import (
	"slices"
	"testing"

	"quarantine/api"
	"quarantine/typed"
)

// reason is a sentence of the chapter: its error, and whether it holds.
type reason struct {
	err   api.Errno
	holds bool
}

func firstOf(l []reason) api.Errno {
	for _, r := range l {
		if r.holds {
			return r.err
		}
	}
	return api.OK
}

// signs are the ways with parts, each by the kinds that fit, and behind them the kind that is told.
var signs = allSigns()

func allSigns() map[int][][]int {
	i, x, b := api.Int, api.Text, api.Bool
	sums, compares, joins := [][]int{{i, i, i}}, [][]int{{i, i, b}, {x, x, b}}, [][]int{{b, b, b}}
	return map[int][][]int{
		api.ExNeg: {{i, i}}, api.ExNot: {{b, b}},
		api.ExAdd: sums, api.ExSub: sums, api.ExMul: sums,
		api.ExEq: compares, api.ExNe: compares, api.ExLt: compares, api.ExLe: compares, api.ExGt: compares, api.ExGe: compares,
		api.ExAnd: joins, api.ExOr: joins,
	}
}

// plainKind tells what Kind tells, with all its reasons, by the chapter's sentences one by one.
func plainKind(cols []api.Item, kinds []int, e api.Expr) (int, []reason) {
	fits := signs[e.Op]
	switch {
	case e.Op == api.ExLit:
		return e.Value.Kind, []reason{{api.ErrArg, len(e.Args) != 0}}
	case e.Op == api.ExCol:
		found, last := 0, 0
		for i := 0; i < len(cols) && i < len(kinds); i++ {
			if cols[i].Name == e.Name && (e.Table == "" || cols[i].Table == e.Table) {
				found, last = found+1, kinds[i]
			}
		}
		return last, []reason{{api.ErrArg, len(e.Args) != 0}, {api.ErrColumn, found == 0}, {api.ErrColumn, found > 1}}
	case fits == nil:
		return 0, []reason{{api.ErrArg, true}}
	}
	l := []reason{{api.ErrArg, len(e.Args) != len(fits[0])-1}}
	var have []int
	for _, arg := range e.Args {
		k, more := plainKind(cols, kinds, arg)
		have, l = append(have, k), append(l, more...)
	}
	for _, sign := range fits {
		if slices.Equal(have, sign[:len(sign)-1]) {
			return sign[len(sign)-1], l
		}
	}
	return 0, append(l, reason{api.ErrType, true})
}

// plainly tells what Kind tells.
func plainly(cols []api.Item, kinds []int, e api.Expr) (int, api.Errno) {
	k, l := plainKind(cols, kinds, e)
	if err := firstOf(l); err != api.OK {
		return 0, err
	}
	return k, api.OK
}

// sought tells the first table of that name, and whether there is none.
func sought(s api.Schema, name string) (api.Table, bool) {
	for _, x := range s.Tables {
		if x.Name == name {
			return x, false
		}
	}
	return api.Table{}, true
}

// spread tells all columns of these tables, and their kinds.
func spread(l ...api.Table) (cols []api.Item, kinds []int) {
	for _, x := range l {
		for _, c := range x.Cols {
			cols, kinds = append(cols, api.Item{Table: x.Name, Name: c.Name}), append(kinds, c.Kind)
		}
	}
	return cols, kinds
}

// why tells all sentences of P10.2 on st, in their order.
func why(s api.Schema, st api.Stmt) []reason {
	t, none := sought(s, st.Table)
	cols, kinds := spread(t)
	l := whyLists(st)
	if firstOf(l) != api.OK {
		return l
	}
	switch st.Kind {
	case api.StInsert:
		l = append(l, reason{api.ErrTable, none}, reason{api.ErrLong, len(st.Values) != len(t.Cols)})
		for i := 0; i < len(st.Values) && i < len(t.Cols); i++ {
			l = append(l, whyFits(nil, nil, st.Values[i:i+1], t.Cols[i].Kind)...)
		}
	case api.StSelect:
		return append(l, whySelect(s, st)...)
	case api.StUpdate:
		l = append(l, reason{api.ErrTable, none})
		var found []api.Col
		for _, c := range t.Cols {
			if c.Name == st.Name {
				found = append(found, c)
			}
		}
		if len(found) != 1 {
			return append(l, reason{api.ErrColumn, true})
		}
		l = append(l, reason{api.ErrKey, t.Cols[0].Name == st.Name}, reason{api.ErrKey, found[0].Ref != ""})
		l = append(l, whyFits(cols, kinds, st.Values, found[0].Kind)...)
		l = append(l, whyFits(cols, kinds, st.Where, api.Bool)...)
	case api.StDelete:
		l = append(l, reason{api.ErrTable, none})
		l = append(l, whyFits(cols, kinds, st.Where, api.Bool)...)
	case api.StView, api.StClosure:
		return why(s, st.Inner[0])
	case api.StCall:
		l = append(l, reason{api.ErrNone, !slices.ContainsFunc(s.Views, func(v api.View) bool { return v.Name == st.Name })})
	}
	return l
}

// whyFits tells Kind's error of each, and ErrType: not of that kind.
func whyFits(cols []api.Item, kinds []int, l []api.Expr, kind int) []reason {
	var out []reason
	for _, e := range l {
		k, err := plainly(cols, kinds, e)
		out = append(out, reason{err, err != api.OK}, reason{api.ErrType, k != kind})
	}
	return out
}

// whyLists tells the sentences on st's lists.
func whyLists(st api.Stmt) []reason {
	notColumn := func(e api.Expr) bool { return e.Op != api.ExCol || len(e.Args) > 0 }
	switch st.Kind {
	case api.StSelect:
		return []reason{
			{api.ErrArg, st.Join == "" && len(st.On) != 0}, {api.ErrArg, st.Join != "" && len(st.On) != 2},
			{api.ErrArg, len(st.Where) > 1}, {api.ErrArg, len(st.Order) > 1},
			{api.ErrArg, slices.ContainsFunc(st.On, notColumn)}, {api.ErrArg, slices.ContainsFunc(st.Order, notColumn)},
		}
	case api.StUpdate:
		return []reason{{api.ErrArg, len(st.Values) != 1}, {api.ErrArg, len(st.Where) > 1}}
	case api.StDelete:
		return []reason{{api.ErrArg, len(st.Where) > 1}}
	case api.StView, api.StClosure:
		return []reason{{api.ErrArg, len(st.Inner) != 1}}
	}
	return []reason{{api.ErrArg, st.Kind < 1 || st.Kind > 13}}
}

func whySelect(s api.Schema, st api.Stmt) []reason {
	left, noLeft := sought(s, st.Table)
	l := []reason{{api.ErrTable, noLeft}}
	cols, kinds := spread(left)
	if st.Join != "" {
		right, noRight := sought(s, st.Join)
		l = append(l, reason{api.ErrTable, noRight}, reason{api.ErrName, st.Table == st.Join})
		cols, kinds = spread(left, right)
		a, e := plainly(cols, kinds, st.On[0])
		b, f := plainly(cols, kinds, st.On[1])
		l = append(l, reason{e, e != api.OK}, reason{f, f != api.OK}, reason{api.ErrType, a != b})
	}
	with, without := false, false
	for _, it := range st.Items {
		k, e := plainly(cols, kinds, api.Expr{Op: api.ExCol, Table: it.Table, Name: it.Name})
		l = append(l, reason{api.ErrArg, it.Agg < 0 || it.Agg > 4}, reason{api.ErrArg, it.Agg == api.AggCount && it.Name != ""},
			reason{api.ErrColumn, it.Agg != api.AggCount && e != api.OK}, reason{api.ErrType, it.Agg == api.AggSum && k == api.Text})
		with, without = with || it.Agg != 0, without || it.Agg == 0
	}
	l = append(l, reason{api.ErrType, with && without}, reason{api.ErrType, with && len(st.Order) > 0})
	l = append(l, whyFits(cols, kinds, st.Where, api.Bool)...)
	for _, e := range st.Order {
		_, err := plainly(cols, kinds, e)
		l = append(l, reason{err, err != api.OK})
	}
	return l
}

// grower makes statements and expressions that mostly fit a schema, and sometimes not, by one reason or several.
type grower struct {
	*dice
	cols  []api.Item
	kinds []int
	odds  int // one of so many is a slip
}

func (g grower) slips() bool { return g.next(g.odds) == 0 }

// expr tells an expression of that kind, which names columns that there are.
func (g grower) expr(kind, deep int) api.Expr {
	if g.slips() {
		return pick(g.dice, column("none"), op(api.ExNeg), op(77), g.expr(pick(g.dice, api.Int, api.Text, api.Bool), deep), lit(0), op(api.ExAdd, number(1), number(2), number(3)))
	}
	if deep == 0 || kind == api.Text || g.next(3) == 0 && kind == api.Int {
		return g.leaf(kind)
	}
	two := func(kind, op int) api.Expr {
		return api.Expr{Op: op, Args: exprs(g.expr(kind, deep-1), g.expr(kind, deep-1))}
	}
	if kind == api.Int {
		if g.next(4) == 0 {
			return op(api.ExNeg, g.expr(kind, deep-1))
		}
		return two(kind, api.ExAdd+g.next(3))
	}
	switch g.next(5) {
	case 0:
		return op(api.ExNot, g.expr(kind, deep-1))
	case 1:
		return two(kind, api.ExAnd+g.next(2))
	}
	return two(pick(g.dice, api.Int, api.Text), api.ExEq+g.next(6))
}

// leaf tells a column or a literal of that kind.
func (g grower) leaf(kind int) api.Expr {
	if i := slices.Index(g.kinds, kind); i >= 0 && g.next(2) == 0 {
		for g.kinds[i] != kind || g.next(2) == 0 {
			i = (i + 1) % len(g.kinds)
		}
		return g.column(i)
	}
	if kind == api.Bool {
		return holds()
	}
	return lit(kind)
}

// column tells one by its name, with its table where it needs one, and sometimes where it does not.
func (g grower) column(i int) api.Expr {
	alike := 0
	for _, c := range g.cols {
		if c.Name == g.cols[i].Name {
			alike++
		}
	}
	if alike > 1 != g.slips() || g.next(3) == 0 {
		return columnOf(g.cols[i].Table, g.cols[i].Name)
	}
	return column(g.cols[i].Name)
}

func (g grower) any() api.Expr { return g.column(g.next(len(g.cols))) }

func (g grower) where() []api.Expr {
	return slices.Repeat(exprs(g.expr(api.Bool, 3)), g.next(2))
}

// stmt tells a statement on the tables of s.
func (g grower) stmt(s api.Schema, deep int) api.Stmt {
	st := api.Stmt{Kind: pick(g.dice, api.StInsert, api.StUpdate, api.StDelete, api.StSelect, api.StSelect, api.StSelect, api.StView, api.StClosure, api.StCall)}
	t := pick(g.dice, s.Tables...)
	st.Table = t.Name
	g.cols, g.kinds = spread(t)
	switch st.Kind {
	case api.StInsert:
		g.cols, g.kinds = nil, nil
		for _, c := range t.Cols {
			st.Values = append(st.Values, g.expr(c.Kind, 2))
		}
		if g.slips() {
			st.Values = st.Values[1:]
		}
	case api.StUpdate:
		c := pick(g.dice, t.Cols...)
		st.Name, st.Values, st.Where = c.Name, exprs(g.expr(c.Kind, 2)), g.where()
	case api.StDelete:
		st.Where = g.where()
	case api.StSelect:
		st = g.query(s, st, t)
	case api.StCall:
		st.Name = pick(g.dice, "v", "shut", "none")
	default:
		for range 1 - g.next(g.odds)/(g.odds-1)*min(deep, 1) {
			if deep == 0 {
				return api.Stmt{Kind: api.StBegin + g.next(4)}
			}
			st.Inner = append(st.Inner, g.stmt(s, deep-1))
		}
	}
	return g.spoilt(st)
}

func (g grower) query(s api.Schema, st api.Stmt, t api.Table) api.Stmt {
	if g.next(2) == 0 {
		join := pick(g.dice, s.Tables...)
		for join.Name == t.Name && !g.slips() {
			join = pick(g.dice, s.Tables...)
		}
		st.Join = join.Name
		g.cols, g.kinds = spread(t, join)
		kind := pick(g.dice, api.Int, api.Text)
		for len(st.On) < 2 {
			if i := g.next(len(g.cols)); g.kinds[i] == kind || g.slips() {
				st.On = append(st.On, g.column(i))
			}
		}
	}
	folds := g.next(2) == 0
	for range g.next(4) {
		c := g.any()
		it := api.Item{Table: c.Table, Name: c.Name}
		if folds != g.slips() {
			it.Agg = pick(g.dice, api.AggSum, api.AggMin, api.AggMax)
			if g.next(3) == 0 {
				it = api.Item{Agg: api.AggCount}
			}
		}
		st.Items = append(st.Items, it)
	}
	st.Where = g.where()
	if !folds || g.slips() {
		st.Order = slices.Repeat(exprs(g.any()), g.next(2))
	}
	return st
}

// spoilt tells st, or st with something that may not be.
func (g grower) spoilt(st api.Stmt) api.Stmt {
	if !g.slips() {
		return st
	}
	bad := pick(g.dice, number(1), column("none"), api.Expr{Op: api.ExCol, Name: "a", Args: exprs(number(1))})
	switch g.next(9) {
	case 0:
		st.Table = "none"
	case 1:
		st.Join = pick(g.dice, "none", "t", "")
	case 2:
		st.Name = pick(g.dice, "none", "k", "a")
	case 3:
		st.Where = append(st.Where, bad)
	case 4:
		st.Order = append(st.Order, bad)
	case 5:
		st.On = append(st.On, bad)
	case 6:
		st.Values = append(st.Values, bad)
	case 7:
		st.Items = append(st.Items, api.Item{Agg: g.next(9) - 2, Name: pick(g.dice, "", "a", "x", "none")})
	case 8:
		st.Kind = g.next(17) - 1
	}
	return st
}

// P10.2: many statements, held against the chapter's sentences

func TestGrownStatements(t *testing.T) {
	d := dice(1)
	s := town(t)
	told := map[int]map[api.Errno]int{}
	for i := range 120000 {
		g := grower{dice: &d, odds: []int{10, 30, 200}[i%3]}
		st := g.stmt(s, 2)
		want := firstOf(why(s, st))
		if told[st.Kind] == nil {
			told[st.Kind] = map[api.Errno]int{}
		}
		told[st.Kind][want]++
		checks(t, s, st, want)
		if t.Failed() {
			return
		}
	}
	for kind, l := range map[int][]api.Errno{
		api.StTable: {api.OK}, api.StIndex: {api.OK}, api.StBegin: {api.OK}, api.StCommit: {api.OK}, api.StRollback: {api.OK}, api.StRaise: {api.OK},
		api.StInsert:  {api.OK, api.ErrTable, api.ErrLong, api.ErrArg, api.ErrColumn, api.ErrType},
		api.StSelect:  {api.OK, api.ErrTable, api.ErrName, api.ErrArg, api.ErrColumn, api.ErrType},
		api.StUpdate:  {api.OK, api.ErrTable, api.ErrArg, api.ErrColumn, api.ErrKey, api.ErrType},
		api.StDelete:  {api.OK, api.ErrTable, api.ErrArg, api.ErrColumn, api.ErrType},
		api.StView:    {api.OK, api.ErrTable, api.ErrArg, api.ErrColumn, api.ErrType, api.ErrKey, api.ErrName, api.ErrLong, api.ErrNone},
		api.StClosure: {api.OK, api.ErrTable, api.ErrArg, api.ErrColumn, api.ErrType, api.ErrKey, api.ErrName, api.ErrLong, api.ErrNone},
		api.StCall:    {api.OK, api.ErrNone},
	} {
		for _, e := range l {
			if told[kind][e] < 20 {
				t.Errorf("of kind %d %d is told but %d times", kind, e, told[kind][e])
			}
		}
	}
}

// P10.1: many expressions, held against the chapter's sentences

func TestGrownExpressions(t *testing.T) {
	d := dice(2)
	cols, kinds := over()
	told := map[api.Errno]int{}
	for i := range 60000 {
		g := grower{&d, cols, kinds, []int{5, 20, 200}[i%3]}
		e := g.expr(pick(&d, api.Int, api.Text, api.Bool, api.Bool), 4)
		want, err := plainly(cols, kinds, e)
		told[err]++
		if got, e2 := typed.Kind(cols, kinds, e); got != want || e2 != err {
			t.Fatalf("Kind of %+v is %d, %d, not %d, %d", e, got, e2, want, err)
		}
	}
	for _, e := range []api.Errno{api.OK, api.ErrArg, api.ErrColumn, api.ErrType} {
		if told[e] < 1000 {
			t.Errorf("%d is told but %d times", e, told[e])
		}
	}
}
