package typed_test

import (
	"slices"
	"testing"

	"quarantine/api"
)

// P10.2 StSelect: ErrTable, ErrName

func TestTablesOfASelect(t *testing.T) {
	checksText(t, town(t), map[string]api.Errno{
		"select * from t":                            api.OK,
		"select * from w":                            api.OK,
		"select * from none":                         api.ErrTable,
		"select * from v":                            api.ErrTable,
		"select * from t join u on t.k = u.r":        api.OK,
		"select * from u join t on t.k = u.r":        api.OK,
		"select * from t join w on a = c":            api.OK,
		"select * from t join none on a = a":         api.ErrTable,
		"select * from none join t on a = a":         api.ErrTable,
		"select * from none join other on a = a":     api.ErrTable,
		"select * from none join none on a = a":      api.ErrTable,
		"select * from t join t on a = a":            api.ErrName,
		"select * from t join t on t.a = t.a":        api.ErrName,
		"select * from t join t on none = x":         api.ErrName,
		"select none from t join t on a = a where a": api.ErrName,
	})
}

// A table without a name, which no text says, is one; a Join without a name is none.
func TestATableWithoutAName(t *testing.T) {
	s := town(t)
	checks(t, s, api.Stmt{Kind: api.StSelect}, api.ErrTable)
	s.Tables = append(s.Tables, api.Table{Cols: []api.Col{{Name: "z", Kind: api.Int}}})
	checks(t, s, api.Stmt{Kind: api.StSelect, Items: items(api.Item{Name: "z"})}, api.OK)
	checks(t, s, api.Stmt{Kind: api.StSelect, Table: "t", Items: items(api.Item{Name: "z"})}, api.ErrColumn)
	checks(t, s, api.Stmt{Kind: api.StSelect, Join: "t", On: exprs(column("z"), column("a"))}, api.OK)
}

// P10.2 StSelect: On: both columns' errors, then ErrType

func TestOn(t *testing.T) {
	checksText(t, town(t), map[string]api.Errno{
		"select * from t join u on a = r":             api.OK,
		"select * from t join u on r = a":             api.OK,
		"select * from t join u on x = b":             api.OK,
		"select * from t join u on x = u.k":           api.OK,
		"select * from t join u on t.both = u.both":   api.OK,
		"select * from t join u on a = a":             api.OK,
		"select * from t join u on t.k = a":           api.OK,
		"select * from t join u on both = r":          api.ErrColumn,
		"select * from t join u on r = both":          api.ErrColumn,
		"select * from t join u on k = r":             api.ErrColumn,
		"select * from t join u on t.k = k":           api.ErrColumn,
		"select * from t join u on none = r":          api.ErrColumn,
		"select * from t join u on a = none":          api.ErrColumn,
		"select * from t join u on x = none":          api.ErrColumn,
		"select * from t join u on a = w.c":           api.ErrColumn,
		"select * from t join u on a = c":             api.ErrColumn,
		"select * from t join u on u.a = r":           api.ErrColumn,
		"select * from t join u on x = r":             api.ErrType,
		"select * from t join u on r = x":             api.ErrType,
		"select * from t join u on t.k = u.k":         api.ErrType,
		"select none from t join u on x = r":          api.ErrType,
		"select none from t join u on k = r":          api.ErrColumn,
		"select sum(x) from t join u on none = r":     api.ErrColumn,
		"select * from t join u on x = r where none":  api.ErrType,
		"select * from t join u on none = r where a":  api.ErrColumn,
		"select * from t join u on x = r order by k":  api.ErrType,
		"select a, count(*) from t join u on x = b":   api.ErrType,
		"select a, count(*) from t join u on x = bad": api.ErrColumn,
	})
}

// P10.2 StSelect: the columns of both tables, with and without their table

func TestColumnsOfBothTables(t *testing.T) {
	s := town(t)
	for _, x := range []struct {
		table, name string
		ofT, ofBoth api.Errno
	}{
		{"", "k", api.OK, api.ErrColumn}, {"t", "k", api.OK, api.OK}, {"u", "k", api.ErrColumn, api.OK}, {"w", "k", api.ErrColumn, api.ErrColumn},
		{"", "both", api.OK, api.ErrColumn}, {"t", "both", api.OK, api.OK}, {"u", "both", api.ErrColumn, api.OK},
		{"", "a", api.OK, api.OK}, {"t", "a", api.OK, api.OK}, {"u", "a", api.ErrColumn, api.ErrColumn},
		{"", "r", api.ErrColumn, api.OK}, {"t", "r", api.ErrColumn, api.ErrColumn}, {"u", "r", api.ErrColumn, api.OK},
		{"", "c", api.ErrColumn, api.ErrColumn}, {"w", "c", api.ErrColumn, api.ErrColumn},
		{"", "", api.ErrColumn, api.ErrColumn}, {"t", "", api.ErrColumn, api.ErrColumn}, {"", "none", api.ErrColumn, api.ErrColumn},
	} {
		one := api.Stmt{Kind: api.StSelect, Table: "t"}
		two := api.Stmt{Kind: api.StSelect, Table: "t", Join: "u", On: exprs(column("a"), column("r"))}
		other := api.Stmt{Kind: api.StSelect, Table: "u", Join: "t", On: exprs(column("a"), column("r"))}
		c := columnOf(x.table, x.name)
		where := exprs(op(api.ExOr, op(api.ExEq, c, c), holds()))
		for _, st := range []api.Stmt{{Order: exprs(c)}, {Items: items(api.Item{Table: x.table, Name: x.name})}, {Items: items(api.Item{Agg: api.AggMin, Table: x.table, Name: x.name})}, {Where: where}} {
			one.Items, one.Where, one.Order = st.Items, st.Where, st.Order
			two.Items, two.Where, two.Order = st.Items, st.Where, st.Order
			other.Items, other.Where, other.Order = st.Items, st.Where, st.Order
			checks(t, s, one, x.ofT)
			checks(t, s, two, x.ofBoth)
			checks(t, s, other, x.ofBoth)
		}
	}
}

// P10.2 StSelect: Items one by one

func TestItems(t *testing.T) {
	s := town(t)
	for _, x := range []struct {
		it   api.Item
		want api.Errno
	}{
		{api.Item{Name: "a"}, api.OK}, {api.Item{Name: "x"}, api.OK}, {api.Item{Table: "t", Name: "a"}, api.OK},
		{api.Item{Name: "none"}, api.ErrColumn}, {api.Item{Table: "u", Name: "a"}, api.ErrColumn}, {api.Item{}, api.ErrColumn},
		{api.Item{Agg: api.AggCount}, api.OK}, {api.Item{Agg: api.AggCount, Name: "a"}, api.ErrArg}, {api.Item{Agg: api.AggCount, Name: "none"}, api.ErrArg},
		{api.Item{Agg: api.AggCount, Table: "t", Name: "a"}, api.ErrArg}, {api.Item{Agg: api.AggCount, Table: "t"}, api.OK},
		{api.Item{Agg: api.AggSum, Name: "a"}, api.OK}, {api.Item{Agg: api.AggSum, Table: "t", Name: "a"}, api.OK},
		{api.Item{Agg: api.AggSum, Name: "x"}, api.ErrType}, {api.Item{Agg: api.AggSum, Table: "t", Name: "x"}, api.ErrType},
		{api.Item{Agg: api.AggSum, Name: "none"}, api.ErrColumn}, {api.Item{Agg: api.AggSum, Table: "u", Name: "x"}, api.ErrColumn}, {api.Item{Agg: api.AggSum}, api.ErrColumn},
		{api.Item{Agg: api.AggMin, Name: "a"}, api.OK}, {api.Item{Agg: api.AggMin, Name: "x"}, api.OK}, {api.Item{Agg: api.AggMin, Name: "none"}, api.ErrColumn}, {api.Item{Agg: api.AggMin}, api.ErrColumn},
		{api.Item{Agg: api.AggMax, Name: "a"}, api.OK}, {api.Item{Agg: api.AggMax, Name: "x"}, api.OK}, {api.Item{Agg: api.AggMax, Name: "none"}, api.ErrColumn}, {api.Item{Agg: api.AggMax}, api.ErrColumn},
		{api.Item{Agg: -1}, api.ErrArg}, {api.Item{Agg: -1, Name: "a"}, api.ErrArg}, {api.Item{Agg: -1, Name: "none"}, api.ErrArg},
		{api.Item{Agg: api.AggMax + 1, Name: "a"}, api.ErrArg}, {api.Item{Agg: api.AggMax + 1, Name: "x"}, api.ErrArg}, {api.Item{Agg: 99, Name: "none"}, api.ErrArg},
	} {
		st := api.Stmt{Kind: api.StSelect, Table: "t", Items: items(x.it)}
		checks(t, s, st, x.want)
		// Beside others of its sort, which are fine.
		good := items(api.Item{Name: "k"}, api.Item{Name: "k"})
		if x.it.Agg != api.AggNone {
			good = items(api.Item{Agg: api.AggCount}, api.Item{Agg: api.AggSum, Name: "k"})
		}
		for i := range len(good) + 1 {
			st.Items = slices.Insert(slices.Clone(good), i, x.it)
			checks(t, s, st, x.want)
		}
		// A table that is not there is told ahead of it; so is what is wrong with On.
		st.Table = "none"
		checks(t, s, st, api.ErrTable)
		st = api.Stmt{Kind: api.StSelect, Table: "t", Join: "w", On: exprs(column("none"), column("c")), Items: items(x.it)}
		checks(t, s, st, api.ErrColumn)
		st.On = exprs(column("x"), column("c"))
		checks(t, s, st, api.ErrType)
	}
}

// P10.2 StSelect: the first Item that is wrong, ahead of Items with and without an Agg

func TestWhichItem(t *testing.T) {
	s := town(t)
	bad := []struct {
		it   api.Item
		want api.Errno
	}{
		{api.Item{Agg: 9, Name: "none"}, api.ErrArg}, {api.Item{Agg: api.AggCount, Name: "none"}, api.ErrArg},
		{api.Item{Name: "none"}, api.ErrColumn}, {api.Item{Agg: api.AggMax, Name: "none"}, api.ErrColumn},
		{api.Item{Agg: api.AggSum, Name: "x"}, api.ErrType},
	}
	mixed := items(api.Item{Name: "a"}, api.Item{Agg: api.AggCount})
	for _, x := range bad {
		for _, y := range bad {
			for _, l := range [][]api.Item{{x.it, y.it}, {mixed[0], x.it, y.it}, {mixed[1], x.it, y.it}, {mixed[1], mixed[0], x.it, mixed[0], y.it}, {x.it, mixed[0], mixed[1], y.it}} {
				checks(t, s, api.Stmt{Kind: api.StSelect, Table: "t", Items: l}, x.want)
				for _, e := range someWrong() {
					checks(t, s, api.Stmt{Kind: api.StSelect, Table: "t", Items: l, Where: exprs(e), Order: exprs(column("none"))}, x.want)
				}
			}
		}
	}
}

// P10.2 StSelect: an Item with, and one without an Agg

func TestItemsWithAndWithoutAgg(t *testing.T) {
	checksText(t, town(t), map[string]api.Errno{
		"select a, k from t":                                       api.OK,
		"select a, a, a from t":                                    api.OK,
		"select count(*), sum(a) from t":                           api.OK,
		"select sum(a), count(*), min(x), max(x), min(a) from t":   api.OK,
		"select sum(a), k from t":                                  api.ErrType,
		"select k, sum(a) from t":                                  api.ErrType,
		"select k, count(*) from t":                                api.ErrType,
		"select count(*), k from t":                                api.ErrType,
		"select min(a), max(a), k from t":                          api.ErrType,
		"select k, a, x, max(x) from t":                            api.ErrType,
		"select k, max(x), a from t":                               api.ErrType,
		"select count(*), k, count(*) from t":                      api.ErrType,
		"select count(*), none from t":                             api.ErrColumn,
		"select count(*), k, none from t":                          api.ErrColumn,
		"select k, count(*) from t where none":                     api.ErrType,
		"select k, count(*) from t order by none":                  api.ErrType,
		"select count(*) from t join u on a = r":                   api.OK,
		"select sum(t.both), max(u.both) from t join u on x = b":   api.OK,
		"select sum(t.both), u.both from t join u on x = b":        api.ErrType,
		"select count(*) from t where a = 1":                       api.OK,
		"select max(b), count(*) from t join u on x = b where a":   api.ErrType,
		"select max(b), count(*) from t join u on x = b where k=1": api.ErrColumn,
	})
}

// P10.2 StSelect: Order beside an Agg

func TestOrder(t *testing.T) {
	checksText(t, town(t), map[string]api.Errno{
		"select * from t order by a":                                     api.OK,
		"select * from t order by x desc":                                api.OK,
		"select * from t order by t.k":                                   api.OK,
		"select x from t order by a":                                     api.OK,
		"select x from t where a = 1 order by t.both desc":               api.OK,
		"select * from t join u on a = r order by u.k":                   api.OK,
		"select * from t order by none":                                  api.ErrColumn,
		"select * from t order by u.k":                                   api.ErrColumn,
		"select * from t order by b":                                     api.ErrColumn,
		"select * from t join u on a = r order by k":                     api.ErrColumn,
		"select * from t where a = 1 order by none":                      api.ErrColumn,
		"select * from t where x order by none":                          api.ErrType,
		"select * from t where x = 1 order by none":                      api.ErrType,
		"select count(*) from t order by a":                              api.ErrType,
		"select count(*) from t order by none":                           api.ErrType,
		"select sum(a) from t order by a desc":                           api.ErrType,
		"select min(x), max(x) from t order by x":                        api.ErrType,
		"select max(a) from t where none order by a":                     api.ErrType,
		"select count(*) from t where none = 1 order by k":               api.ErrType,
		"select none from t order by a":                                  api.ErrColumn,
		"select max(none) from t order by a":                             api.ErrColumn,
		"select count(*) from t join u on none = a order by t.k":         api.ErrColumn,
		"select count(*) from t join u on t.both = u.both order by t.k":  api.ErrType,
		"select t.both from t join u on t.both = u.both order by u.both": api.OK,
	})
	// Falling or not, with an Order or without: Desc says nothing here.
	checks(t, town(t), api.Stmt{Kind: api.StSelect, Table: "t", Desc: true}, api.OK)
	checks(t, town(t), api.Stmt{Kind: api.StSelect, Table: "t", Desc: true, Items: items(api.Item{Agg: api.AggCount})}, api.OK)
}

// P10.2 StSelect: Where: Kind's error, ErrType: not Bool

func TestWhere(t *testing.T) {
	s := town(t)
	for _, from := range []api.Stmt{{Table: "t"}, {Table: "t", Join: "u", On: exprs(column("a"), column("r"))}} {
		for _, l := range [][]api.Item{nil, items(api.Item{Name: "a"}), items(api.Item{Agg: api.AggCount})} {
			st := api.Stmt{Kind: api.StSelect, Table: from.Table, Join: from.Join, On: from.On, Items: l}
			for _, k := range allKinds {
				want := api.ErrType
				if k == api.Bool {
					want = api.OK
				}
				st.Where = exprs(lit(k))
				checks(t, s, st, want)
			}
			for i, e := range someWrong() {
				st.Where = exprs(e)
				checks(t, s, st, whichWrong(i))
				st.Where = exprs(op(api.ExAnd, holds(), op(api.ExNot, e)))
				checks(t, s, st, whichWrong(i))
			}
			for _, c := range exprs(column("a"), column("x"), columnOf("t", "both")) {
				st.Where = exprs(c)
				checks(t, s, st, api.ErrType)
				st.Where = exprs(op(api.ExGe, c, c))
				checks(t, s, st, api.OK)
			}
		}
	}
	checksText(t, s, map[string]api.Errno{
		"select * from t where a = 1 and x < 'b' or not k <> 2":       api.OK,
		"select * from t where a":                                     api.ErrType,
		"select * from t where 'a'":                                   api.ErrType,
		"select * from t where a + 1":                                 api.ErrType,
		"select * from t where x + 1 = 2":                             api.ErrType,
		"select * from t where (a = 1) = (a = 2)":                     api.ErrType,
		"select * from t where none":                                  api.ErrColumn,
		"select * from t where a = 'a' or none":                       api.ErrType,
		"select * from t where none or a = 'a'":                       api.ErrColumn,
		"select * from t join u on a = r where t.both = u.both":       api.OK,
		"select * from t join u on a = r where both = 1":              api.ErrColumn,
		"select count(*) from t join u on x = b where b = t.x":        api.OK,
		"select * from none where none":                               api.ErrTable,
		"select none from t where x":                                  api.ErrColumn,
		"select sum(x) from t where none":                             api.ErrType,
		"select * from t join u on x = none where x order by none":    api.ErrColumn,
		"select * from t join u on x = r where none = 1 order by bad": api.ErrType,
	})
}

// P10.2 StSelect, R2: each error together with each that is named behind it

func TestWhichErrorOfASelect(t *testing.T) {
	s := town(t)
	// Two faults at one place are not there at once.
	faults := []struct {
		place string
		want  api.Errno
		do    func(st *api.Stmt)
	}{
		{"Order", api.ErrArg, func(st *api.Stmt) { st.Order = exprs(number(1)) }},
		{"Table", api.ErrTable, func(st *api.Stmt) { st.Table = "none" }},
		{"Join", api.ErrTable, func(st *api.Stmt) { st.Join = "other" }},
		{"Join", api.ErrName, func(st *api.Stmt) { st.Join = st.Table }},
		{"On 0", api.ErrColumn, func(st *api.Stmt) { st.On[0] = column("none") }},
		{"On 1", api.ErrColumn, func(st *api.Stmt) { st.On[1] = column("none") }},
		{"On 1", api.ErrType, func(st *api.Stmt) { st.On[1] = columnOf("t", "x") }},
		{"an Item", api.ErrArg, func(st *api.Stmt) { st.Items = append(st.Items, api.Item{Agg: -1}) }},
		{"another", api.ErrColumn, func(st *api.Stmt) { st.Items = append(st.Items, api.Item{Name: "none"}) }},
		{"a third", api.ErrType, func(st *api.Stmt) { st.Items = append(st.Items, api.Item{Agg: api.AggSum, Name: "x"}) }},
		{"a fourth", api.ErrType, func(st *api.Stmt) { st.Items = append(st.Items, api.Item{Agg: api.AggCount}) }},
		{"Where", api.ErrArg, func(st *api.Stmt) { st.Where = exprs(op(api.ExNot)) }},
		{"Where", api.ErrColumn, func(st *api.Stmt) { st.Where = exprs(column("none")) }},
		{"Where", api.ErrType, func(st *api.Stmt) { st.Where = exprs(column("x")) }},
		{"Order", api.ErrColumn, func(st *api.Stmt) { st.Order = exprs(column("none")) }},
	}
	whole := func() api.Stmt {
		return api.Stmt{Kind: api.StSelect, Table: "t", Join: "w", On: exprs(column("a"), column("c")), Items: items(api.Item{Name: "k"}), Where: exprs(holds())}
	}
	checks(t, s, whole(), api.OK)
	for i, x := range faults {
		st := whole()
		x.do(&st)
		checks(t, s, st, x.want)
		for _, y := range faults[i+1:] {
			if x.place == y.place {
				continue
			}
			st := whole()
			x.do(&st)
			y.do(&st)
			checks(t, s, st, x.want)
		}
	}
}
