package typed_test

import (
	"testing"

	"quarantine/api"
	"quarantine/typed"
)

// P10.2 StView, StClosure: Check of Inner

func TestDoors(t *testing.T) {
	checksText(t, town(t), map[string]api.Errno{
		"create view z strip as select * from t":                            api.OK,
		"create view v strip 1 as select sum(a) from t join u on a = r":     api.OK,
		"create view z strip 9 as select * from none":                       api.ErrTable,
		"create view z strip as select none from t":                         api.ErrColumn,
		"create view z strip as select sum(a), k from t":                    api.ErrType,
		"create view z strip as select * from t join t on a = a":            api.ErrName,
		"create view z strip as select * from v":                            api.ErrTable,
		"create closure z strip as delete from t":                           api.OK,
		"create closure shut strip 1, 9 as insert into w values(1, 'a')":    api.OK,
		"create closure z strip as update t set a = a + 1 where x = ''":     api.OK,
		"create closure z strip as delete from none":                        api.ErrTable,
		"create closure z strip as delete from t where x":                   api.ErrType,
		"create closure z strip as insert into w values(1)":                 api.ErrLong,
		"create closure z strip as insert into w values(1, c)":              api.ErrColumn,
		"create closure z strip as update t set k = 1":                      api.ErrKey,
		"create closure z strip as update t set a = 'a'":                    api.ErrType,
		"create closure z strip as update t set a = 1 where both = u.both":  api.ErrColumn,
		"create closure z strip 70, 60, 70 as update u set r = 1 where 'a'": api.ErrKey,
	})
}

// P10.2 StView, StClosure: of one statement; else ErrArg

func TestHowManyInner(t *testing.T) {
	s := town(t)
	bad := []api.Stmt{{}, {Kind: api.StDelete, Table: "none"}, {Kind: api.StSelect, Table: "t"}, {Kind: api.StCall, Name: "none"}}
	for _, kind := range []int{api.StView, api.StClosure} {
		checks(t, s, api.Stmt{Kind: kind, Name: "z"}, api.ErrArg)
		checks(t, s, api.Stmt{Kind: kind, Name: "z", Inner: []api.Stmt{}}, api.ErrArg)
		for _, x := range bad {
			for _, y := range bad {
				checks(t, s, api.Stmt{Kind: kind, Name: "z", Inner: []api.Stmt{x, y}}, api.ErrArg)
				checks(t, s, api.Stmt{Kind: kind, Name: "z", Inner: []api.Stmt{x, y, x}}, api.ErrArg)
			}
		}
	}
}

// What is told is what Check tells of the one, whatever its kind: which kinds may stand there, 9 looks.
func TestInner(t *testing.T) {
	s := town(t)
	inner := append(samples(), []api.Stmt{
		{}, {Kind: 99}, {Kind: api.StInsert, Table: "none"}, {Kind: api.StInsert, Table: "t"}, {Kind: api.StSelect, Table: "none"}, {Kind: api.StSelect, Table: "none", Join: "t"},
		{Kind: api.StUpdate, Table: "t"}, {Kind: api.StUpdate, Table: "t", Name: "k", Values: exprs(number(1))}, {Kind: api.StDelete, Table: "t", Where: exprs(number(1))},
		{Kind: api.StCall, Name: "none"}, {Kind: api.StView}, {Kind: api.StView, Inner: []api.Stmt{{Kind: api.StCall}}}, {Kind: api.StClosure, Inner: make([]api.Stmt, 2)},
	}...)
	for _, kind := range []int{api.StView, api.StClosure} {
		for _, st := range inner {
			want := typed.Check(s, st)
			checks(t, s, api.Stmt{Kind: kind, Name: "z", Inner: []api.Stmt{st}}, want)
			checks(t, s, api.Stmt{Kind: api.StView, Inner: []api.Stmt{{Kind: kind, Inner: []api.Stmt{st}}}}, want)
			// The door's own other fields say nothing: neither its name nor what it strips is looked at.
			checks(t, s, api.Stmt{Kind: kind, Name: "v", Table: "none", Tags: make([]uint16, 99), Where: make([]api.Expr, 3), Inner: []api.Stmt{st}}, want)
		}
	}
}

// P10.2 StCall: ErrNone

func TestCalls(t *testing.T) {
	checksText(t, town(t), map[string]api.Errno{"call v": api.OK, "call shut": api.OK, "call t": api.ErrNone, "call none": api.ErrNone, "call vv": api.ErrNone})
	checks(t, town(t), api.Stmt{Kind: api.StCall}, api.ErrNone)
	checks(t, town(t), api.Stmt{Kind: api.StCall, Table: "v", Name: ""}, api.ErrNone)
	checks(t, api.Schema{}, api.Stmt{Kind: api.StCall, Name: "v"}, api.ErrNone)
	// What the view does is not looked at again.
	s := api.Schema{Views: []api.View{{Name: "a", Do: api.Stmt{Kind: 99}}, {Name: ""}}}
	checks(t, s, api.Stmt{Kind: api.StCall, Name: "a"}, api.OK)
	checks(t, s, api.Stmt{Kind: api.StCall}, api.OK)
}

// Limits: statements may be nested as deep as is promised.
func TestDeepDoors(t *testing.T) {
	s := town(t)
	for want, st := range map[api.Errno]api.Stmt{api.OK: {Kind: api.StDelete, Table: "t"}, api.ErrTable: {Kind: api.StDelete}, api.ErrArg: {}} {
		for i := range 1<<16 - 2 {
			st = api.Stmt{Kind: api.StView + i%2, Inner: []api.Stmt{st}}
		}
		if e := typed.Check(s, st); e != want {
			t.Errorf("%d, not %d", e, want)
		}
	}
}
