package rel

import (
	"iter"
	"slices"

	"quarantine/api"
	"quarantine/value"
)

// from tells the columns of a select's tables, one table's behind the other's, and the rows that these have together.
func from(st api.Stmt, left, right api.Table, lrows, rrows [][]api.Value) (scope, iter.Seq[[]api.Value], api.Errno) {
	if st.Join == "" {
		return columns(left), slices.Values(lrows), api.OK
	}
	in := columns(left, right)
	if len(st.On) != 2 {
		return nil, nil, api.ErrArg
	}
	on, err := each(st.On, in.named)
	if err != api.OK {
		return nil, nil, err
	}
	return in, joined(lrows, rrows, on[0], on[1]), api.OK
}

// joined tells each of left, in order, with each of right, in order, such as have alike values at both places.
func joined(left, right [][]api.Value, a, b int) iter.Seq[[]api.Value] {
	return func(yield func([]api.Value) bool) {
		for _, l := range left {
			for _, r := range right {
				if two := (pair{l, r}); two.alike(a, b) && !yield(two.whole()) {
					return
				}
			}
		}
	}
}

// pair is two rows, read as if one's values stood behind the other's: most pairs are passed over, and are not worth a row of their own.
type pair struct {
	left, right []api.Value
}

// at tells the value at that place; false: there is none.
func (two pair) at(place int) (api.Value, bool) {
	if place < len(two.left) {
		return two.left[place], true
	}
	if place -= len(two.left); place < len(two.right) {
		return two.right[place], true
	}
	return api.Value{}, false
}

// alike tells whether there are alike values at both places.
func (two pair) alike(a, b int) bool {
	x, ok := two.at(a)
	y, also := two.at(b)
	return ok && also && value.Compare(x, y) == 0
}

// whole tells all values in a new list: behind those of left there may be room that is not ours.
func (two pair) whole() []api.Value {
	return slices.Concat(two.left, two.right)
}
