package btree

import (
	"bytes"
	"slices"
)

// Amiss tells what is not right within a tree; "": nothing.
// A leaf has a value a key and no kids, a node above has no values, and a kid more than keys; all leaves stand in one level;
// keys rise, and all below a kid stand between the two keys beside it; and Levels tells how many there are.
func (t *Tree[V]) Amiss() string {
	if t.root == nil {
		return ""
	}
	if !slices.EqualFunc(t.root.sizes(nil, 0), t.Levels(), slices.Equal[[]int]) {
		return "other levels are told than there are"
	}
	low := t.root
	height := 0
	for ; len(low.kids) > 0; low = low.kids[0] {
		height++
	}
	return t.root.amiss(height, nil, nil)
}

// sizes adds to levels how many keys n and each node below it has, n standing in that level.
func (n *node[V]) sizes(levels [][]int, level int) [][]int {
	if level == len(levels) {
		levels = append(levels, nil)
	}
	levels[level] = append(levels[level], len(n.keys))
	for _, kid := range n.kids {
		levels = kid.sizes(levels, level+1)
	}
	return levels
}

// amiss tells what is not right of a node that stands so high above the leaves; its keys are not below from, and below to (nil: whichever).
func (n *node[V]) amiss(height int, from, to []byte) string {
	above := min(height, 1)
	switch {
	case len(n.vals) != len(n.keys)*(1-above):
		return "not a value a key, or values above the leaves"
	case len(n.kids) != (len(n.keys)+1)*above:
		return "not a kid more than keys, or a leaf in another level"
	}
	for i, key := range n.keys {
		if bytes.Compare(key, from) < 0 || to != nil && bytes.Compare(key, to) >= 0 {
			return "a key that is not below its node"
		}
		if i > 0 && bytes.Compare(n.keys[i-1], key) >= 0 {
			return "keys that do not rise"
		}
	}
	for i, kid := range n.kids {
		low, high := from, to
		if i > 0 {
			low = n.keys[i-1]
		}
		if i < len(n.keys) {
			high = n.keys[i]
		}
		if amiss := kid.amiss(height-1, low, high); amiss != "" {
			return amiss
		}
	}
	return ""
}
