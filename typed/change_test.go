package typed_test

import (
	"slices"
	"testing"

	"quarantine/api"
)

// P10.2 StInsert

func TestInserts(t *testing.T) {
	checksText(t, town(t), map[string]api.Errno{
		"insert into t values(1, 'a', 2, 3)":                                   api.OK,
		"insert into t values(1 + 2 * 3, '', -1, -(2 - 1))":                    api.OK,
		"insert into u values('k', 1, 'b', 9223372036854775807 + 1)":           api.OK,
		"insert into w values(1, 'a')":                                         api.OK,
		"insert into none values(1)":                                           api.ErrTable,
		"insert into v values(1)":                                              api.ErrTable,
		"insert into t values(1)":                                              api.ErrLong,
		"insert into t values(1, 'a', 2)":                                      api.ErrLong,
		"insert into t values(1, 'a', 2, 3, 4)":                                api.ErrLong,
		"insert into w values(1, 'a', 'a')":                                    api.ErrLong,
		"insert into t values('a', 'a', 2, 3)":                                 api.ErrType,
		"insert into t values(1, 2, 2, 3)":                                     api.ErrType,
		"insert into t values(1, 'a', 2, '3')":                                 api.ErrType,
		"insert into t values(1 = 1, 'a', 2, 3)":                               api.ErrType,
		"insert into t values(1, 'a' = 'a', 2, 3)":                             api.ErrType,
		"insert into t values(1, 'a', not 2, 3)":                               api.ErrType,
		"insert into t values(1, -'a', 2, 3)":                                  api.ErrType,
		"insert into t values(k, 'a', 2, 3)":                                   api.ErrColumn,
		"insert into t values(1, x, 2, 3)":                                     api.ErrColumn,
		"insert into t values(1, 'a', t.a, 3)":                                 api.ErrColumn,
		"insert into t values(1, 'a', 2, 3 + both)":                            api.ErrColumn,
		"insert into t values(1, none, 2, 3)":                                  api.ErrColumn,
		"insert into w values(1, 'a' = 'a' and not ('a' < 'b' or d = 'none'))": api.ErrColumn,
	})
}

// P10.2 StInsert: ErrTable, ErrLong: in this order, and ahead of what the Values say

func TestHowManyValues(t *testing.T) {
	s := town(t)
	for table, cols := range map[string]int{"t": 4, "u": 4, "w": 2} {
		for n := range 9 {
			for _, e := range append(exprs(holds()), wrong()[api.ErrArg], wrong()[api.ErrColumn]) {
				st := api.Stmt{Kind: api.StInsert, Table: table, Values: slices.Repeat(exprs(e), n)}
				if n != cols {
					checks(t, s, st, api.ErrLong)
				}
				st.Table = "none"
				checks(t, s, st, api.ErrTable)
			}
		}
	}
	// Of a table without columns, which no create makes, a row without values is one.
	s.Tables = append(s.Tables, api.Table{Name: "bare"})
	checks(t, s, api.Stmt{Kind: api.StInsert, Table: "bare"}, api.OK)
	checks(t, s, api.Stmt{Kind: api.StInsert, Table: "bare", Values: exprs(number(1))}, api.ErrLong)
}

// P10.2 StInsert: Value by Value: Kind's error, ErrType

func TestValueByValue(t *testing.T) {
	s := town(t)
	good := exprs(number(1), text("a"), number(2), number(3))
	bad := []struct {
		want api.Errno
		at   func(place int) api.Expr
	}{
		{api.ErrArg, func(int) api.Expr { return wrong()[api.ErrArg] }},
		{api.ErrColumn, func(int) api.Expr { return wrong()[api.ErrColumn] }},
		{api.ErrType, func(int) api.Expr { return wrong()[api.ErrType] }},
		{api.ErrType, func(int) api.Expr { return holds() }},
		{api.ErrType, func(place int) api.Expr { return lit(api.Int + api.Text - good[place].Value.Kind) }},
		{api.ErrType, func(int) api.Expr { return lit(0) }},
	}
	for i := range good {
		for _, x := range bad {
			l := slices.Clone(good)
			l[i] = x.at(i)
			checks(t, s, api.Stmt{Kind: api.StInsert, Table: "t", Values: l}, x.want)
			// One behind it says nothing, whatever is wrong with it.
			for j := i + 1; j < len(good); j++ {
				for _, y := range bad {
					two := slices.Clone(l)
					two[j] = y.at(j)
					checks(t, s, api.Stmt{Kind: api.StInsert, Table: "t", Values: two}, x.want)
				}
			}
		}
	}
}

// P10.2 StUpdate

func TestUpdates(t *testing.T) {
	checksText(t, town(t), map[string]api.Errno{
		"update t set x = 'a'":                              api.OK,
		"update t set a = 1":                                api.OK,
		"update t set a = a + t.k * both where x = 'a'":     api.OK,
		"update t set x = t.x where t.k = 1 and not a < -2": api.OK,
		"update u set b = k where both = r":                 api.OK,
		"update w set d = 'a'":                              api.OK,
		"update none set a = 1":                             api.ErrTable,
		"update v set a = 1":                                api.ErrTable,
		"update t set none = 1":                             api.ErrColumn,
		"update t set b = 'a'":                              api.ErrColumn,
		"update t set k = 1":                                api.ErrKey,
		"update u set k = 'a'":                              api.ErrKey,
		"update u set r = 1":                                api.ErrKey,
		"update w set c = 1":                                api.ErrKey,
		"update t set x = 1":                                api.ErrType,
		"update t set a = 'a'":                              api.ErrType,
		"update t set a = x":                                api.ErrType,
		"update t set a = 1 = 1":                            api.ErrType,
		"update t set a = -x":                               api.ErrType,
		"update t set a = none":                             api.ErrColumn,
		"update t set a = u.both":                           api.ErrColumn,
		"update t set x = b":                                api.ErrColumn,
		"update t set a = 1 where a":                        api.ErrType,
		"update t set a = 1 where x":                        api.ErrType,
		"update t set a = 1 where not a":                    api.ErrType,
		"update t set a = 1 where a = x":                    api.ErrType,
		"update t set a = 1 where none = 1":                 api.ErrColumn,
		"update t set a = 1 where b = 'a'":                  api.ErrColumn,
		"update t set a = 1 where u.both = 1":               api.ErrColumn,
	})
}

// P10.2 StUpdate, R2: each error with all that are named behind it

func TestWhichErrorOfAnUpdate(t *testing.T) {
	s := town(t)
	values, wheres := append(exprs(number(1), text("a"), holds()), someWrong()...), append(exprs(number(1), text("a"), holds()), someWrong()...)
	for i, v := range values {
		for j, w := range wheres {
			with := func(table, name string) api.Stmt {
				return api.Stmt{Kind: api.StUpdate, Table: table, Name: name, Values: exprs(v), Where: exprs(w)}
			}
			checks(t, s, with("none", "none"), api.ErrTable)
			checks(t, s, with("none", "k"), api.ErrTable)
			checks(t, s, with("none", "a"), api.ErrTable)
			checks(t, s, with("t", "none"), api.ErrColumn)
			checks(t, s, with("t", "r"), api.ErrColumn)
			checks(t, s, with("t", "k"), api.ErrKey)
			checks(t, s, with("u", "k"), api.ErrKey)
			checks(t, s, with("u", "r"), api.ErrKey)
			// Of an Int: the first value alone fits; of where the third alone.
			want := api.OK
			switch {
			case i >= 3:
				want = whichWrong(i - 3)
			case i > 0:
				want = api.ErrType
			case j >= 3:
				want = whichWrong(j - 3)
			case j != 2:
				want = api.ErrType
			}
			checks(t, s, with("t", "a"), want)
		}
	}
}

// whichWrong tells the errors of someWrong, one by one.
func whichWrong(i int) api.Errno { return []api.Errno{api.ErrArg, api.ErrColumn, api.ErrType}[i] }

func someWrong() []api.Expr {
	return exprs(wrong()[whichWrong(0)], wrong()[whichWrong(1)], wrong()[whichWrong(2)])
}

// P10.2 StDelete

func TestDeletes(t *testing.T) {
	s := town(t)
	checksText(t, s, map[string]api.Errno{
		"delete from t": api.OK,
		"delete from u where k = 'a' and r < both":  api.OK,
		"delete from t where t.k = 1 or not x = ''": api.OK,
		"delete from none":                          api.ErrTable,
		"delete from v":                             api.ErrTable,
		"delete from none where x":                  api.ErrTable,
		"delete from t where x":                     api.ErrType,
		"delete from t where a":                     api.ErrType,
		"delete from t where 1":                     api.ErrType,
		"delete from t where a = 'a'":               api.ErrType,
		"delete from t where (a = 1) = (a = 1)":     api.ErrType,
		"delete from t where none = 1":              api.ErrColumn,
		"delete from t where b = 'a'":               api.ErrColumn,
		"delete from t where u.k = 'a'":             api.ErrColumn,
		"delete from t where none":                  api.ErrColumn,
	})
	for i, e := range someWrong() {
		checks(t, s, api.Stmt{Kind: api.StDelete, Table: "t", Where: exprs(e)}, whichWrong(i))
		checks(t, s, api.Stmt{Kind: api.StDelete, Table: "none", Where: exprs(e)}, api.ErrTable)
	}
	for _, k := range allKinds {
		want := api.ErrType
		if k == api.Bool {
			want = api.OK
		}
		checks(t, s, api.Stmt{Kind: api.StDelete, Table: "t", Where: exprs(lit(k))}, want)
	}
}
