package rel

import "quarantine/api"

// listed tells of each row, in the order that is asked for, the items' columns.
func (in scope) listed(st api.Stmt, rows found) ([][]api.Value, api.Errno) {
	all, err := gathered(rows)
	if err != api.OK {
		return nil, err
	}
	all, err = in.ordered(all, st.Order, st.Desc)
	if err != api.OK {
		return nil, err
	}
	return in.only(st.Items, all)
}

// ordered tells the rows sorted by the one column of order; if there is none, as they stood.
func (in scope) ordered(rows [][]api.Value, order []api.Expr, desc bool) ([][]api.Value, api.Errno) {
	if len(order) > 1 {
		return nil, api.ErrArg
	}
	for _, e := range order {
		by, err := in.named(e)
		if err != api.OK {
			return nil, err
		}
		rows = inOrder(rows, by, desc)
	}
	return rows, api.OK
}

// only tells of each row the items' columns; if there are none, all.
func (in scope) only(items []api.Item, rows [][]api.Value) ([][]api.Value, api.Errno) {
	if len(items) == 0 {
		return copied(rows), api.OK
	}
	places, err := each(items, func(it api.Item) (int, api.Errno) { return in.place(it.Table, it.Name) })
	if err != api.OK {
		return nil, err
	}
	return each(rows, func(r []api.Value) ([]api.Value, api.Errno) {
		return each(places, func(place int) (api.Value, api.Errno) {
			v, err := at(r, place)
			return fresh(v), err
		})
	})
}
