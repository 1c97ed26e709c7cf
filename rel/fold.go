package rel

import (
	"quarantine/api"
	"quarantine/num"
	"quarantine/value"
)

func isFolded(it api.Item) bool {
	return it.Agg != api.AggNone
}

// folded tells the one row of what each item makes of all rows, or the first item's error; that of the rows comes ahead of any item's.
func (in scope) folded(items []api.Item, rows found) ([][]api.Value, api.Errno) {
	var tallies []*tally
	for _, it := range items {
		tallies = append(tallies, in.tallyOf(it))
	}
	for r, err := range rows {
		if err != api.OK {
			return nil, err
		}
		for _, y := range tallies {
			y.take(r)
		}
	}
	row, err := each(tallies, (*tally).told)
	if err != api.OK {
		return nil, err
	}
	return [][]api.Value{row}, api.OK
}

// tally is what an item makes of the rows that it has taken. It keeps none: two tables may have more of them together than there is room for.
type tally struct {
	agg, place int
	rows       int64
	made       api.Value
	err        api.Errno // the first that it met
}

// tallyOf tells an item's tally of no rows.
func (in scope) tallyOf(it api.Item) *tally {
	y := &tally{agg: it.Agg, made: whole(0)}
	switch it.Agg {
	case api.AggCount:
	case api.AggSum, api.AggMin, api.AggMax:
		y.place, y.err = in.place(it.Table, it.Name)
	case api.AggNone:
		// What is not folded has a value a row, and there is but one row to tell.
		y.err = api.ErrType
	default:
		y.err = api.ErrArg
	}
	return y
}

// take takes one more row; behind an error it takes none, as the first error is the one to be told.
func (y *tally) take(r []api.Value) {
	if y.err != api.OK {
		return
	}
	if y.rows++; y.agg == api.AggCount {
		return
	}
	var v api.Value
	if v, y.err = at(r, y.place); y.err == api.OK {
		y.made, y.err = y.with(v)
	}
}

// with tells what is made of v and of what is made already.
func (y *tally) with(v api.Value) (api.Value, api.Errno) {
	switch {
	case y.agg == api.AggSum:
		return sum(y.made, v)
	case y.rows == 1:
		return v, api.OK
	case y.agg == api.AggMin:
		return foremost(value.Compare, y.made, v), api.OK
	}
	return foremost(falling(value.Compare), y.made, v), api.OK
}

// told tells what is made of all rows.
func (y *tally) told() (api.Value, api.Errno) {
	switch {
	case y.err != api.OK:
		return api.Value{}, y.err
	case y.agg == api.AggCount:
		return whole(y.rows), api.OK
	case y.agg != api.AggSum && y.rows == 0:
		return api.Value{}, api.ErrEmpty
	}
	return fresh(y.made), api.OK
}

// sum tells the sum of both numbers. ErrType: the second is none.
func sum(a, b api.Value) (api.Value, api.Errno) {
	if b.Kind != api.Int {
		return api.Value{}, api.ErrType
	}
	n, err := num.Add(a.Int, b.Int)
	return whole(n), err
}

// whole tells n as a value.
func whole(n int64) api.Value {
	return api.Value{Kind: api.Int, Int: n}
}
