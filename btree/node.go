package btree

import (
	"bytes"
	"slices"

	"quarantine/api"
)

// least is how many keys each node has at least, but the root.
const least = api.Order / 2

// node is a leaf, with a value a key, or stands above others: then it has one kid more than keys,
// and each of its keys parts two of them: it is above all on its left, and not above any on its right.
type node[V any] struct {
	keys [][]byte // the bytes of a key are never changed, so that nodes and trees may share them
	vals []V
	kids []*node[V]
}

func (n *node[V]) isLeaf() bool { return len(n.kids) == 0 }

// find tells at which place among the keys of n a key stands, or would stand.
func (n *node[V]) find(key []byte) (at int, is bool) {
	return slices.BinarySearchFunc(n.keys, key, bytes.Compare)
}

// way tells at which place the kid stands below which a key is, if it is below n.
func (n *node[V]) way(key []byte) int {
	at, is := n.find(key)
	if is {
		at++
	}
	return at
}

// put makes v the value of key in a leaf below n, and tells whether it had one; n may have a key too many then.
func (n *node[V]) put(key []byte, v V) bool {
	if !n.isLeaf() {
		way := n.way(key)
		was := n.kids[way].put(key, v)
		if len(n.kids[way].keys) > api.Order {
			n.split(way)
		}
		return was
	}
	at, is := n.find(key)
	if is {
		n.vals[at] = v
		return true
	}
	n.keys = slices.Insert(n.keys, at, bytes.Clone(key))
	n.vals = slices.Insert(n.vals, at, v)
	return false
}

func (n *node[V]) get(key []byte) (v V, is bool) {
	for !n.isLeaf() {
		n = n.kids[n.way(key)]
	}
	at, is := n.find(key)
	if is {
		v = n.vals[at]
	}
	return v, is
}

// drop takes key out of the leaves below n, and tells whether it was there; n may have a key too few then.
func (n *node[V]) drop(key []byte) bool {
	if !n.isLeaf() {
		way := n.way(key)
		was := n.kids[way].drop(key)
		if len(n.kids[way].keys) < least {
			n.fill(way)
		}
		return was
	}
	at, is := n.find(key)
	if is {
		take(&n.keys, at)
		take(&n.vals, at)
	}
	return is
}

// scan adds to told the pairs below n with keys from from on, until there are so many.
func (n *node[V]) scan(told []Pair[V], from []byte, most int) []Pair[V] {
	if !n.isLeaf() {
		for way := n.way(from); way < len(n.kids) && len(told) < most; way++ {
			told = n.kids[way].scan(told, from, most)
		}
		return told
	}
	for at, _ := n.find(from); at < len(n.keys) && len(told) < most; at++ {
		told = append(told, Pair[V]{Key: bytes.Clone(n.keys[at]), Val: n.vals[at]})
	}
	return told
}

// twin tells another node, with the same below it.
func (n *node[V]) twin() *node[V] {
	if n == nil {
		return nil
	}
	out := &node[V]{keys: slices.Clone(n.keys), vals: slices.Clone(n.vals)}
	for _, kid := range n.kids {
		out.kids = append(out.kids, kid.twin())
	}
	return out
}
