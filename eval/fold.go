package eval

import (
	"slices"

	"quarantine/api"
)

// fold makes of out and of each of l, from the left, the next out. It ends at the first error, beside which nothing is told.
func fold[T, A any](l []T, out A, next func(A, T) (A, api.Errno)) (A, api.Errno) {
	for _, x := range l {
		var e api.Errno
		if out, e = next(out, x); e != api.OK {
			var none A
			return none, e
		}
	}
	return out, api.OK
}

// each tells what one makes of each of l, or the first error.
func each[T, A any](l []T, one func(T) (A, api.Errno)) ([]A, api.Errno) {
	return fold(l, make([]A, 0, len(l)), func(out []A, x T) ([]A, api.Errno) {
		y, e := one(x)
		return append(out, y), e
	})
}

// between tells what next makes of the members of l, one behind the other; l has at least one.
func between[T any](l []T, next func(T, T) (T, api.Errno)) (T, api.Errno) {
	return fold(l[1:], l[0], next)
}

// only tells the place of the one of l that is such a one; false: none is, or more than one.
func only[T any](l []T, is func(T) bool) (int, bool) {
	i := slices.IndexFunc(l, is)
	return i, i >= 0 && !slices.ContainsFunc(l[i+1:], is)
}
