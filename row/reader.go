package row

import "quarantine/api"

// reader tells what stands at b's beginning, and how many bytes it has.
type reader[T any] func(b []byte) (v T, n int, e api.Errno)

// counted makes a reader of a list: first how many things it has, then each.
func counted[T any](many reader[int], one reader[T]) reader[[]T] {
	return func(b []byte) ([]T, int, api.Errno) {
		count, at, e := many(b)
		if e != api.OK {
			return nil, 0, e
		}
		list, n, e := times(count, one)(b[at:])
		if e != api.OK {
			return nil, 0, e
		}
		return list, at + n, api.OK
	}
}

// times makes a reader of count things, one behind the other.
func times[T any](count int, one reader[T]) reader[[]T] {
	return func(b []byte) ([]T, int, api.Errno) {
		var list []T
		at := 0
		for range count {
			v, n, e := one(b[at:])
			if e != api.OK {
				return nil, 0, e
			}
			list = append(list, v)
			at += n
		}
		return list, at, api.OK
	}
}

// whole reads all of b: bytes behind what r reads are none of it.
func whole[T any](r reader[T], b []byte) (T, api.Errno) {
	var none T
	v, n, e := r(b)
	if e != api.OK {
		return none, e
	}
	// Asked last: a fault within what is read is met ahead of what stands behind it.
	if n < len(b) {
		return none, api.ErrForm
	}
	return v, api.OK
}
