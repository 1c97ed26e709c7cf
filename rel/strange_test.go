package rel_test

import (
	"math"
	"runtime"
	"runtime/debug"
	"slices"
	"strings"
	"testing"

	"quarantine/api"
	"quarantine/rel"
	"quarantine/typed"
)

// strangeValue tells a value of any form.
func strangeValue(d *dice) api.Value {
	return pick(d, whole(int64(d.next(3))), written(pick(d, "", "a")), api.Value{Kind: pick(d, api.Bool, d.next(8)-2, math.MinInt, math.MaxInt), Int: pick(d, int64(0), 1, math.MinInt64, math.MaxInt64), Text: pick(d, "", "a", "\xff\x00")}, whole(math.MaxInt64))
}

// strangeRows tells rows of any length.
func strangeRows(d *dice) [][]api.Value {
	var out [][]api.Value
	for range d.next(5) {
		var r []api.Value
		for range pick(d, 3, 3, 3, d.next(6)) {
			r = append(r, strangeValue(d))
		}
		out = append(out, r)
	}
	return out
}

// strangeTable tells a table of any form: names that are alike, or empty, and kinds that there are not.
func strangeTable(d *dice) api.Table {
	t := api.Table{Name: pick(d, "t", "u", ""), Index: pick(d, nil, []string{"k", "k", ""})}
	for range pick(d, 3, 3, d.next(6)) {
		t.Cols = append(t.Cols, api.Col{Name: pick(d, "k", "x", "y", ""), Kind: d.next(5) - 1, Ref: pick(d, "", "t", "z")})
	}
	return t
}

// strangeExpr tells an expression of any form, though often one that is looked at far.
func strangeExpr(d *dice, deep int) api.Expr {
	e := api.Expr{Op: pick(d, api.ExCol, api.ExCol, api.ExCol, api.ExLit, api.ExEq, api.ExAdd, api.ExAnd, api.ExNot, d.next(20)-2, math.MinInt, math.MaxInt), Value: strangeValue(d), Table: pick(d, "", "t", "u"), Name: pick(d, "k", "x", "y", "")}
	if e.Op == api.ExCol && d.next(9) > 0 {
		return e
	}
	for range pick(d, 2, 2, d.next(4)) * min(deep, 1) {
		e.Args = append(e.Args, strangeExpr(d, deep-1))
	}
	return e
}

func strangeExprs(d *dice, n, deep int) []api.Expr {
	var out []api.Expr
	for range n {
		out = append(out, strangeExpr(d, deep))
	}
	return out
}

// strange tells a select that fits, and its tables and rows, of which some parts are then of any form.
func strange(t *testing.T, d *dice) given {
	g := grown(t, d)
	odds := 2 + d.next(30)
	slips := func() bool { return d.next(odds) == 0 }
	if slips() {
		g.Left = strangeTable(d)
	}
	if slips() {
		g.Right = strangeTable(d)
	}
	if slips() {
		g.Lrows = strangeRows(d)
	}
	if slips() {
		g.Rrows = strangeRows(d)
	}
	if slips() {
		g.St.Kind = pick(d, d.next(16)-1, math.MinInt, math.MaxInt)
	}
	if slips() {
		g.St.Table, g.St.Name, g.St.Join = pick(d, "t", "u", "", "z"), "k", pick(d, "", "u", "t", "z")
	}
	if slips() {
		g.St.On = strangeExprs(d, pick(d, 2, 2, d.next(4)), 1)
	}
	if slips() {
		g.St.Where = strangeExprs(d, pick(d, 1, 1, d.next(3)), 3)
	}
	if slips() {
		g.St.Order, g.St.Desc = strangeExprs(d, pick(d, 1, 1, d.next(3)), 1), d.next(2) == 0
	}
	for i := range g.St.Items {
		if slips() {
			g.St.Items[i] = api.Item{Agg: pick(d, d.next(5), d.next(8)-2, math.MinInt, math.MaxInt), Table: pick(d, "", "t", "u"), Name: pick(d, "k", "x", "y", "")}
		}
	}
	return g
}

// R1, R2: none panics, whatever is handed in, and nothing stands beside an error

func TestWhateverIsHandedIn(t *testing.T) {
	d := dice(9)
	told := map[api.Errno]int{}
	for range 200000 {
		g := strange(t, &d)
		got, e := g.selected()
		told[e]++
		if e != api.OK && len(got) != 0 {
			t.Fatalf("%s comes to %s beside %d", brief(g), shown(got), e)
		}
		by := pick(&d, d.next(8)-2, math.MinInt, math.MaxInt)
		if got := rel.Sort(g.Lrows, by, g.St.Desc); !sameRows(got, g.Lrows) {
			t.Fatalf("Sort of %s by %d is %s", shown(g.Lrows), by, shown(got))
		}
	}
	for _, e := range []api.Errno{api.OK, api.ErrArg, api.ErrColumn, api.ErrType, api.ErrOverflow, api.ErrEmpty} {
		if told[e] < 1000 {
			t.Errorf("%d is told but %d times", e, told[e])
		}
	}
}

// What Check lets through comes to rows, or runs over, or is of none, if the rows fit their tables.
func TestWhatFits(t *testing.T) {
	d := dice(10)
	told := map[api.Errno]int{}
	for range 200000 {
		g := strange(t, &d)
		for _, x := range []*api.Table{&g.Left, &g.Right} {
			for i := range x.Cols {
				x.Cols[i].Kind = pick(&d, api.Int, api.Int, api.Text)
			}
		}
		if typed.Check(g.schema(), g.St) != api.OK || g.St.Kind != api.StSelect || g.St.Table != g.Left.Name || g.St.Join != "" && g.St.Join != g.Right.Name {
			continue
		}
		g.Lrows, g.Rrows = rowsOf(&d, g.Left, d.next(5)), rowsOf(&d, g.Right, d.next(5))
		got, e := g.selected()
		told[e]++
		if e != api.OK && e != api.ErrOverflow && e != api.ErrEmpty {
			t.Fatalf("%s comes to %s, %d", brief(g), shown(got), e)
		}
	}
	for _, e := range []api.Errno{api.OK, api.ErrOverflow, api.ErrEmpty} {
		if told[e] < 1000 {
			t.Errorf("%d is told but %d times", e, told[e])
		}
	}
}

// What Check would not let through, one thing at a time
func TestWhatDoesNotFit(t *testing.T) {
	col := func(name string) api.Expr { return api.Expr{Op: api.ExCol, Name: name} }
	two := "select a from t join u on x = y where r > 0 order by a"
	for name, x := range map[string]struct {
		text string
		make func(*api.Stmt)
		want api.Errno
	}{
		"no select":             {two, func(st *api.Stmt) { st.Kind = api.StDelete }, api.ErrArg},
		"of no kind":            {two, func(st *api.Stmt) { st.Kind = 0 }, api.ErrArg},
		"no On":                 {two, func(st *api.Stmt) { st.On = nil }, api.ErrArg},
		"an On":                 {two, func(st *api.Stmt) { st.On = st.On[:1] }, api.ErrArg},
		"three On":              {two, func(st *api.Stmt) { st.On = append(st.On, st.On[0]) }, api.ErrArg},
		"an On that is a sum":   {two, func(st *api.Stmt) { st.On[1].Op = api.ExAdd }, api.ErrArg},
		"an On with Args":       {two, func(st *api.Stmt) { st.On[0].Args = st.On[1:] }, api.ErrArg},
		"an On that is not":     {two, func(st *api.Stmt) { st.On[0] = col("z") }, api.ErrColumn},
		"an On of two":          {two, func(st *api.Stmt) { st.On[0] = col("k") }, api.ErrColumn},
		"two Where":             {two, func(st *api.Stmt) { st.Where = append(st.Where, st.Where[0]) }, api.ErrArg},
		"a Where of none":       {two, func(st *api.Stmt) { st.Where[0].Args[0] = col("z") }, api.ErrColumn},
		"a Where that is other": {two, func(st *api.Stmt) { st.Where[0].Args[0] = col("x") }, api.ErrType},
		"two Order":             {two, func(st *api.Stmt) { st.Order = append(st.Order, col("r")) }, api.ErrArg},
		"an Order that is none": {two, func(st *api.Stmt) { st.Order[0] = api.Expr{} }, api.ErrArg},
		"an Order with Args":    {two, func(st *api.Stmt) { st.Order[0].Args = st.On }, api.ErrArg},
		"an Order that is not":  {two, func(st *api.Stmt) { st.Order[0] = col("z") }, api.ErrColumn},
		"an Order of two":       {two, func(st *api.Stmt) { st.Order[0] = col("k") }, api.ErrColumn},
		"an Item that is not":   {two, func(st *api.Stmt) { st.Items[0].Name = "z" }, api.ErrColumn},
		"an Item of two":        {two, func(st *api.Stmt) { st.Items[0].Name = "k" }, api.ErrColumn},
		"an Item of another":    {two, func(st *api.Stmt) { st.Items[0].Table = "u" }, api.ErrColumn},
		"another Agg":           {two, func(st *api.Stmt) { st.Items[0].Agg = 5 }, api.ErrArg},
		"an Agg below 0":        {two, func(st *api.Stmt) { st.Items[0].Agg = -1 }, api.ErrArg},
		"a sum of texts":        {"select sum(k) from t", func(st *api.Stmt) { st.Items[0].Name = "x" }, api.ErrType},
		"both":                  {"select max(k) from t", func(st *api.Stmt) { st.Items = append(st.Items, api.Item{Name: "a"}) }, api.ErrType},
	} {
		g := asking(t, x.text)
		x.make(&g.St)
		if got, e := g.selected(); len(got) != 0 || e != x.want || typed.Check(g.schema(), g.St) == api.OK && x.want != api.ErrArg {
			t.Errorf("%s comes to %s, %d, not to %d", name, shown(got), e, x.want)
		}
	}
}

// Rows that have not a value a column: what there is not is told as a column that there is not, if it is asked for.
func TestRowsOfOtherLengths(t *testing.T) {
	g := given{Left: table("t", "k int", "a int"), Right: table("u", "r int"), Lrows: [][]api.Value{ints(1, 2), ints(3), nil, ints(4, 5, 6)}, Rrows: [][]api.Value{nil, ints(1), ints(3, 9)}}
	for text, want := range map[string]string{
		"select * from t":                             "[1 2] [3] [] [4 5 6]",
		"select * from t order by a":                  "[1 2] [3] [] [4 5 6]",
		"select count(*) from t":                      "[4]",
		"select * from t join u on r = t.a where 1=2": "",
	} {
		g.St = stmt(t, text)
		g.comes(t, want)
	}
	for _, text := range []string{"select a from t", "select k from t", "select sum(a) from t", "select min(k) from t", "select * from t where a > 0", "select count(*) from t where k < 9"} {
		g.St = stmt(t, text)
		g.fails(t, api.ErrColumn)
	}
}

// Names are held against each other byte by byte, whatever bytes they have.
func TestNamesThatNoTextHas(t *testing.T) {
	for _, name := range []string{"", " ", "select", "*", "t.a", "\x00", "\xff", strings.Repeat("n", 1<<16)} {
		g := given{St: api.Stmt{Kind: api.StSelect, Items: []api.Item{{Table: name, Name: name + "k"}, {Name: name}}}, Lrows: [][]api.Value{ints(1, 2)}}
		g.Left = api.Table{Name: name, Cols: []api.Col{{Name: name}, {Name: name + "k"}}}
		g.comes(t, "[2 1]")
		g.St.Items[1].Name += "?"
		g.fails(t, api.ErrColumn)
		g.St.Items[1] = api.Item{Table: name + "?", Name: name}
		g.fails(t, api.ErrColumn)
	}
}

// Limits: lists and texts may be long.
func TestLongLists(t *testing.T) {
	const long = 1 << 17
	g := given{St: stmt(t, "select a from t order by a desc"), Left: table("t", "a text")}
	for i := range long {
		g.Lrows = append(g.Lrows, []api.Value{written(strings.Repeat("a", i%3))})
	}
	g.Lrows[0][0].Text = strings.Repeat("a", long)
	got, e := g.selected()
	if len(got) != long || e != api.OK || got[0][0] != g.Lrows[0][0] || got[long-1][0] != written("") {
		t.Errorf("%d rows, %d", len(got), e)
	}
	g.St.Order = nil
	g.St.Items, g.Lrows = slices.Repeat(g.St.Items, long), g.Lrows[1:3]
	got, e = g.selected()
	if len(got) != 2 || e != api.OK || len(got[0]) != long || got[1][long-1] != written("aa") {
		t.Errorf("%d rows, %d", len(got), e)
	}
}

// R1: what two tables have together may be far more than what is handed in and what is told: such rows are not kept.
func TestFoldsKeepNoRows(t *testing.T) {
	defer debug.SetGCPercent(debug.SetGCPercent(100))
	const n = 1500
	g := given{St: stmt(t, "select count(*), sum(r), min(a), max(r) from t join u on k = k where a >= 0"), Left: table("t", "k int", "a int"), Right: table("u", "r int")}
	for i := range int64(n) {
		g.Lrows, g.Rrows = append(g.Lrows, ints(1, i)), append(g.Rrows, ints(i))
	}
	var before, after runtime.MemStats
	runtime.GC()
	runtime.ReadMemStats(&before)
	g.comes(t, shown([][]api.Value{ints(n*n, n*n*(n-1)/2, 0, n-1)}))
	runtime.ReadMemStats(&after)
	// Each of the pairs would be three values of 32 bytes.
	if grew := int64(after.HeapSys) - int64(before.HeapSys); grew > n*n*32 {
		t.Errorf("a fold takes %d bytes", grew)
	}
}
