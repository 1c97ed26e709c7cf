package rel

import (
	"iter"

	"quarantine/api"
	"quarantine/eval"
)

// found is rows one by one, up to the first error, with which there is no row.
type found = iter.Seq2[[]api.Value, api.Errno]

// such tells the rows for which where holds.
func (in scope) such(rows iter.Seq[[]api.Value], where []api.Expr) found {
	return func(yield func([]api.Value, api.Errno) bool) {
		for r := range rows {
			holds, err := eval.Holds(in, r, where)
			if err != api.OK {
				yield(nil, err)
				return
			}
			if holds && !yield(r, api.OK) {
				return
			}
		}
	}
}

// gathered tells all rows that are found, or the error.
func gathered(rows found) ([][]api.Value, api.Errno) {
	var out [][]api.Value
	for r, err := range rows {
		if err != api.OK {
			return nil, err
		}
		out = append(out, r)
	}
	return out, api.OK
}
