package rel

import (
	"strings"

	"quarantine/api"
)

// each tells what one makes of each of l, in a new list, or the first error, and nothing beside it.
func each[T, A any](l []T, one func(T) (A, api.Errno)) ([]A, api.Errno) {
	out := make([]A, 0, len(l))
	for _, x := range l {
		y, err := one(x)
		if err != api.OK {
			return nil, err
		}
		out = append(out, y)
	}
	return out, api.OK
}

// at tells the value of a row at that place. ErrColumn: the row ends ahead of it.
func at(r []api.Value, place int) (api.Value, api.Errno) {
	if place >= len(r) {
		return api.Value{}, api.ErrColumn
	}
	return r[place], api.OK
}

// copied tells the rows in memory that is all new.
func copied(rows [][]api.Value) [][]api.Value {
	out := make([][]api.Value, 0, len(rows))
	for _, r := range rows {
		row := make([]api.Value, 0, len(r))
		for _, v := range r {
			row = append(row, fresh(v))
		}
		out = append(out, row)
	}
	return out
}

// fresh tells v with a text that shares no memory.
func fresh(v api.Value) api.Value {
	v.Text = strings.Clone(v.Text)
	return v
}
