package btree_test

import (
	"bytes"
	"fmt"
	"testing"

	"quarantine/btree"
)

// P15.1 Put: the value of the key is v now; was there one? Get

func TestPutAndGet(t *testing.T) {
	p := starting(t)
	p.tells(false, call{do: put, key: []byte("a"), val: 1})
	p.tells(false, call{do: put, key: []byte("b"), val: 2})
	p.tells(true, call{do: put, key: []byte("a"), val: 3})
	p.tells(true, call{do: put, key: []byte("a"), val: 3})
	p.tells(true, call{do: put, key: []byte("b"), val: 0})
	for key, want := range map[string]int{"a": 3, "b": 0} {
		if v, is := p.tree.Get([]byte(key)); v != want || !is {
			t.Errorf("Get(%s): %d %v", key, v, is)
		}
	}
	for _, key := range []string{"", "aa", "c", "A", "a\x00", "`"} {
		if v, is := p.tree.Get([]byte(key)); v != 0 || is {
			t.Errorf("Get(%s): %d %v", key, v, is)
		}
	}
	p.lookAround()
}

// The empty key stands ahead of all, and nil is the same.
func TestTheEmptyKey(t *testing.T) {
	for _, keys := range [][2][]byte{{nil, {}}, {{}, nil}, {nil, nil}, {{}, {}}} {
		p := starting(t, puts(3, 1, 2))
		if v, is := p.tree.Get(keys[0]); v != 0 || is {
			t.Errorf("%d %v", v, is)
		}
		p.tells(false, call{do: drop, key: keys[1]})
		p.tells(false, call{do: put, key: keys[0], val: 7})
		p.tells(true, call{do: put, key: keys[1], val: 8})
		if v, is := p.tree.Get(keys[0]); v != 8 || !is || p.tree.Len() != 4 {
			t.Errorf("%d %v, %d keys", v, is, p.tree.Len())
		}
		if l := p.tree.Scan(keys[0], 1); len(l) != 1 || len(l[0].Key) != 0 || l[0].Val != 8 {
			t.Errorf("%v", l)
		}
		p.tells(true, call{do: drop, key: keys[1]})
		p.tells(false, call{do: drop, key: keys[0]})
	}
}

// Keys that are beginnings of one another, and such with bytes 0 and 255, in each order that they may be put in.
func TestEdgesOfKeys(t *testing.T) {
	keys := edges()
	for _, order := range orders(len(keys)) {
		p := starting(t)
		for _, k := range order {
			p.tells(false, call{do: put, key: keys[k], val: k + 1})
		}
		p.lookAround()
		for k, one := range p.tree.Scan(nil, len(keys)) {
			if !bytes.Equal(one.Key, keys[k]) || one.Val != k+1 {
				t.Fatalf("%q %d at place %d", one.Key, one.Val, k)
			}
		}
		for _, k := range order {
			p.tells(true, call{do: put, key: keys[k], val: -k})
		}
		for _, k := range order {
			p.tells(true, call{do: drop, key: keys[k]})
		}
	}
}

// Each key of at most three bytes of a few is another one.
func TestAllShortKeys(t *testing.T) {
	p := starting(t)
	var grow func(key []byte)
	grow = func(key []byte) {
		p.tells(false, call{do: put, key: key, val: len(p.did)})
		for _, b := range []byte{255, 0, 128, 127, 1} {
			if len(key) < 3 {
				grow(append(bytes.Clone(key), b))
			}
		}
	}
	grow(nil)
	if p.lookAround(); p.tree.Len() != 1+5+25+125 {
		t.Errorf("%d keys", p.tree.Len())
	}
}

// Long keys that differ in their last byte alone.
func TestLongKeys(t *testing.T) {
	p := starting(t)
	for _, n := range []int{1 << 16, 1<<16 - 1, 0, 1, 1 << 8} {
		for _, last := range []byte{255, 0, 128} {
			p.tells(false, call{do: put, key: append(bytes.Repeat([]byte{255}, n), last), val: n + int(last)})
		}
	}
	for i, one := range p.plain.pairs {
		if v, is := p.tree.Get(one.Key); v != one.Val || !is {
			t.Errorf("key %d: %d %v", i, v, is)
		}
	}
}

// A key that was dropped and put again is a new one, with its new value.
func TestPutAgain(t *testing.T) {
	for _, n := range []int{1, 6, 7, 30, 100} {
		for _, order := range orders(n) {
			p := starting(t, puts(order...))
			for _, k := range order {
				p.tells(true, call{do: drop, key: name(k)})
				if v, is := p.tree.Get(name(k)); v != 0 || is {
					t.Fatalf("%v: Get(%d): %d %v", p.did, k, v, is)
				}
				p.tells(false, call{do: put, key: name(k), val: 1000 + k})
				if v, is := p.tree.Get(name(k)); v != 1000+k || !is {
					t.Fatalf("%v: Get(%d): %d %v", p.did, k, v, is)
				}
			}
		}
	}
}

// holds puts values of a type into a tree, sees them change, and go.
func holds[V any](t *testing.T, same func(a, b V) bool, vals ...V) {
	t.Helper()
	var zero V
	x := btree.New[V]()
	for round := range 3 {
		at := func(k int) V { return vals[(k+round)%len(vals)] }
		for k := range 40 {
			if was := x.Put(name(k), at(k)); was != (round > 0) {
				t.Errorf("%T: Put: %v", zero, was)
			}
		}
		twin := x.Copy()
		for k := range 40 {
			for _, one := range []*btree.Tree[V]{x, twin} {
				v, is := one.Get(name(k))
				l := one.Scan(name(k), 1)
				if !is || !same(v, at(k)) || len(l) != 1 || !same(l[0].Val, at(k)) {
					t.Errorf("%T: key %d has %v, %v", zero, k, v, l)
				}
			}
		}
		if v, is := x.Get(nil); is || !same(v, zero) {
			t.Errorf("%T: %v", zero, v)
		}
	}
	for k := range 40 {
		if !x.Drop(name(k)) {
			t.Errorf("%T: key %d was not there", zero, k)
		}
		if v, is := x.Get(name(k)); is || !same(v, zero) {
			t.Errorf("%T: %v", zero, v)
		}
	}
	if x.Len() != 0 || x.Levels() != nil {
		t.Errorf("%T: %d keys", zero, x.Len())
	}
}

// equal tells whether two values are one.
func equal[V comparable](a, b V) bool { return a == b }

// Values of any type are kept as they are, the zero value and nil too.
func TestValuesOfTypes(t *testing.T) {
	type place struct {
		row, column int
		name        string
	}
	one, other := 1, 1
	first, second := []int{1, 2, 3}, []int{1, 2, 3}
	holds(t, equal, 0, -1, 1<<62)
	holds[uint64](t, equal, 0, 1<<64-1)
	holds(t, equal, "", "a", "a\x00")
	holds(t, equal, place{}, place{1, 2, "a"}, place{2, 1, "b"})
	holds(t, equal, [2]int{1, 2}, [2]int{})
	holds(t, equal, struct{}{})
	holds(t, equal, &one, &other, nil) // alike, but not the same one
	holds[any](t, equal, nil, 1, "a", place{}, &one)
	holds[error](t, equal, nil, fmt.Errorf("one"))
	holds(t, func(a, b []int) bool { return len(a) == len(b) && (len(a) == 0 || &a[0] == &b[0]) }, first, second, nil, first[:1], first[1:])
	holds(t, func(a, b map[string]int) bool { return fmt.Sprint(a) == fmt.Sprint(b) }, nil, map[string]int{"a": 1})
	holds(t, func(a, b func() int) bool { return a == nil && b == nil || a() == b() }, func() int { return 1 }, func() int { return 2 })
	holds(t, func(a, b *btree.Tree[int]) bool { return a == b }, btree.New[int](), nil)
}
