package typed

import "quarantine/api"

// fold makes of out and of each of l, from the left, the next out. It ends at the first error, beside which nothing is told.
func fold[T, A any](l []T, out A, next func(A, T) (A, api.Errno)) (A, api.Errno) {
	for _, x := range l {
		var e api.Errno
		if out, e = next(out, x); e != api.OK {
			var none A
			return none, e
		}
	}
	return out, api.OK
}

// each tells what one makes of each of l, or the first error.
func each[T, A any](l []T, one func(T) (A, api.Errno)) ([]A, api.Errno) {
	return fold(l, nil, func(out []A, x T) ([]A, api.Errno) {
		y, e := one(x)
		return append(out, y), e
	})
}

// first tells the first error of l.
func first[T any](l []T, one func(T) api.Errno) api.Errno {
	_, e := fold(l, struct{}{}, func(none struct{}, x T) (struct{}, api.Errno) {
		return none, one(x)
	})
	return e
}

// such tells those of l that are such ones.
func such[T any](l []T, is func(T) bool) []T {
	out, _ := fold(l, nil, func(out []T, x T) ([]T, api.Errno) {
		if is(x) {
			out = append(out, x)
		}
		return out, api.OK
	})
	return out
}

// all tells whether each of l is such a one.
func all[T any](l []T, is func(T) bool) bool {
	return len(such(l, is)) == len(l)
}

// alike tells whether no two of l differ.
func alike[T comparable](l []T) bool {
	return all(l, func(x T) bool { return x == l[0] })
}
