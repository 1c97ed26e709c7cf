package rel

import (
	"slices"

	"quarantine/api"
	"quarantine/value"
)

// sorted tells l in a new list, as order has their keys; alike ones stand as they stood.
func sorted[T, K any](l []T, key func(T) K, order func(a, b K) int) []T {
	out := slices.Clone(l)
	slices.SortStableFunc(out, func(a, b T) int { return order(key(a), key(b)) })
	return out
}

// foremost tells the one that stands first, as order has them.
func foremost[T any](order func(a, b T) int, a, b T) T {
	if order(b, a) < 0 {
		return b
	}
	return a
}

// falling tells order the other way round. Alike ones are still alike, so that a sort by it leaves them as they stood.
func falling[K any](order func(a, b K) int) func(a, b K) int {
	return func(a, b K) int { return order(b, a) }
}

// inOrder tells the rows themselves, sorted by their by-th values, if all have one.
func inOrder(rows [][]api.Value, by int, desc bool) [][]api.Value {
	lacks := func(r []api.Value) bool { return by < 0 || by >= len(r) }
	if slices.ContainsFunc(rows, lacks) {
		return rows
	}
	order := value.Compare
	if desc {
		order = falling(order)
	}
	return sorted(rows, func(r []api.Value) api.Value { return r[by] }, order)
}
