package btree

import "slices"

// split makes two kids of the one at that place, which has a key too many.
func (n *node[V]) split(at int) {
	left, right := n.kids[at], &node[V]{}
	half := len(left.keys) / 2
	var between []byte
	if left.isLeaf() {
		right.vals = cut(&left.vals, half)
		right.keys = cut(&left.keys, half)
		between = right.keys[0]
	} else {
		right.kids = cut(&left.kids, half+1)
		right.keys = cut(&left.keys, half+1)
		between = take(&left.keys, half)
	}
	n.keys = slices.Insert(n.keys, at, between)
	n.kids = slices.Insert(n.kids, at+1, right)
}

// fill gives the kid at that place, which has a key too few, one of its neighbour's; or makes one of the two, if the neighbour has none to spare.
func (n *node[V]) fill(at int) {
	switch {
	case at > 0 && len(n.kids[at-1].keys) > least:
		n.borrowFromLeft(at)
	case at < len(n.keys) && len(n.kids[at+1].keys) > least:
		n.borrowFromRight(at)
	case at > 0:
		n.merge(at - 1)
	default:
		n.merge(at)
	}
}

// borrowFromLeft gives the kid at that place the last of what its left neighbour has.
func (n *node[V]) borrowFromLeft(at int) {
	from, to := n.kids[at-1], n.kids[at]
	last := len(from.keys) - 1
	key, between := take(&from.keys, last), n.keys[at-1]
	if to.isLeaf() {
		to.keys = slices.Insert(to.keys, 0, key)
		to.vals = slices.Insert(to.vals, 0, take(&from.vals, last))
	} else {
		to.keys = slices.Insert(to.keys, 0, between)
		to.kids = slices.Insert(to.kids, 0, take(&from.kids, last+1))
	}
	n.keys[at-1] = key
}

// borrowFromRight gives the kid at that place the first of what its right neighbour has.
func (n *node[V]) borrowFromRight(at int) {
	from, to := n.kids[at+1], n.kids[at]
	key, between := take(&from.keys, 0), n.keys[at]
	if to.isLeaf() {
		to.keys = append(to.keys, key)
		to.vals = append(to.vals, take(&from.vals, 0))
		n.keys[at] = from.keys[0]
	} else {
		to.keys = append(to.keys, between)
		to.kids = append(to.kids, take(&from.kids, 0))
		n.keys[at] = key
	}
}

// merge makes one of the kid at that place and the next one.
func (n *node[V]) merge(at int) {
	between, right := take(&n.keys, at), take(&n.kids, at+1)
	left := n.kids[at]
	if !left.isLeaf() {
		left.keys = append(left.keys, between)
	}
	left.keys = append(left.keys, right.keys...)
	left.vals = append(left.vals, right.vals...)
	left.kids = append(left.kids, right.kids...)
}

// take takes what stands at that place out of a list.
func take[T any](l *[]T, at int) T {
	out := (*l)[at]
	*l = slices.Delete(*l, at, at+1)
	return out
}

// cut takes all that stands from that place on off a list.
func cut[T any](l *[]T, at int) []T {
	out := slices.Clone((*l)[at:])
	*l = slices.Delete(*l, at, len(*l))
	return out
}
