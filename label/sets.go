package label

import (
	"cmp"
	"slices"
)

// whole is any kind of whole number: sets are lists of one of them.
type whole interface {
	~int | ~int8 | ~int16 | ~int32 | ~int64 | ~uint | ~uint8 | ~uint16 | ~uint32 | ~uint64
}

// share says which items of two sets are wanted.
type share struct {
	left, both, right bool
}

// rises tells whether each item is above the one ahead of it.
func rises[T whole](l []T) bool {
	for i := 1; i < len(l); i++ {
		if l[i-1] >= l[i] {
			return false
		}
	}
	return true
}

// ordered tells the items of l, rising, each once. A list that rises is handed
// back as it is, for labels nearly always do: who calls may only read it.
func ordered[T whole](l []T) []T {
	if rises(l) {
		return l
	}
	items := slices.Clone(l)
	slices.Sort(items)
	return slices.Compact(items)
}

// within tells whether each item of a is one of b; both rise.
func within[T whole](a, b []T) bool {
	for _, item := range a {
		for len(b) > 0 && b[0] < item {
			b = b[1:]
		}
		if len(b) == 0 || b[0] != item {
			return false
		}
	}
	return true
}

// merge tells, rising and in new memory, the items that want names; a and b rise.
func merge[T whole](a, b []T, want share) []T {
	var out []T
	for len(a) > 0 && len(b) > 0 {
		x, y := a[0], b[0]
		if x <= y {
			a = a[1:]
		}
		if y <= x {
			b = b[1:]
		}
		switch {
		case x == y && want.both, x < y && want.left:
			out = append(out, x)
		case y < x && want.right:
			out = append(out, y)
		}
	}
	if want.left {
		out = append(out, a...)
	}
	if want.right {
		out = append(out, b...)
	}
	return out
}

// compare tells -1, 0 or 1: the shorter list first, then the one whose first unlike item is less.
func compare[T whole](a, b []T) int {
	if c := cmp.Compare(len(a), len(b)); c != 0 {
		return c
	}
	return slices.Compare(a, b)
}
