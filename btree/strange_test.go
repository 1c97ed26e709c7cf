package btree_test

import (
	"math"
	"testing"

	"quarantine/btree"
)

// mosts tells what a scan may be asked for.
func mosts() []int {
	return []int{math.MinInt, -1 << 32, -1, 0, 1, 2, 6, 7, 1 << 31, 1 << 32, math.MaxInt}
}

// P15.1, P15.2: of a nil Tree nothing, no, 0, Copy nil

func TestANilTree(t *testing.T) {
	var x *btree.Tree[string]
	for _, key := range append(edges(), nil) {
		key = withRoom(key)
		was := string(inside(key))
		if x.Put(key, "a") || x.Drop(key) {
			t.Errorf("%q was there", key)
		}
		if v, is := x.Get(key); v != "" || is {
			t.Errorf("Get(%q): %q %v", key, v, is)
		}
		for _, most := range mosts() {
			if l := x.Scan(key, most); len(l) != 0 {
				t.Errorf("Scan(%q, %d): %v", key, most, l)
			}
		}
		if string(inside(key)) != was {
			t.Errorf("%q was changed", was)
		}
	}
	if x.Len() != 0 || len(x.Levels()) != 0 || x.Copy() != nil {
		t.Errorf("%d, %v, %v", x.Len(), x.Levels(), x.Copy())
	}
}

// P15.1: a zero one is as a new one, whichever call is the first

func TestAZeroTree(t *testing.T) {
	first := map[string]func(x *btree.Tree[int]) bool{
		"nothing": func(x *btree.Tree[int]) bool { return true },
		"Put":     func(x *btree.Tree[int]) bool { return !x.Put(name(1), 1) && x.Drop(name(1)) },
		"Put of the empty key": func(x *btree.Tree[int]) bool {
			return !x.Put(nil, 1) && x.Drop(nil)
		},
		"Get": func(x *btree.Tree[int]) bool {
			v, is := x.Get(nil)
			return v == 0 && !is
		},
		"Drop":   func(x *btree.Tree[int]) bool { return !x.Drop(nil) },
		"Scan":   func(x *btree.Tree[int]) bool { return len(x.Scan(nil, 5)) == 0 },
		"Len":    func(x *btree.Tree[int]) bool { return x.Len() == 0 },
		"Levels": func(x *btree.Tree[int]) bool { return len(x.Levels()) == 0 },
		"Copy": func(x *btree.Tree[int]) bool {
			c := x.Copy()
			return c != nil && c != x && c.Len() == 0 && !c.Put(nil, 1)
		},
	}
	for name, call := range first {
		p := starting(t)
		p.tree = &btree.Tree[int]{}
		if !call(p.tree) {
			t.Errorf("%s of a zero one", name)
		}
		p.lookAround()
		d := dice(31)
		for step := range 300 {
			p.ask(somecall(&d, &p.plain, step))
			p.look()
		}
	}
	var x btree.Tree[string]
	if x.Put(nil, "a") || x.Len() != 1 {
		t.Errorf("%d keys", x.Len())
	}
}

// New tells another one each time.
func TestNewTellsAnother(t *testing.T) {
	one, other := btree.New[int](), btree.New[int]()
	one.Put(name(1), 1)
	if one == other || other.Len() != 0 || btree.New[int]().Len() != 0 {
		t.Error("they are one")
	}
}

// R1, R2: whatever is handed in, in whatever state a tree is

func TestWhateverIsHandedIn(t *testing.T) {
	d := dice(32)
	for round := range 30 {
		p := grown(t, &d, 10*round)
		for _, key := range append(edges(), nil, make([]byte, 1<<16)) {
			p.ask(call{do: pick(&d, put, drop), key: key, val: round})
			p.look()
			for _, most := range mosts() {
				if got, want := p.tree.Scan(key, most), p.plain.Scan(key, most); !same(got, want) {
					t.Fatalf("%v: Scan(%q, %d): %v, not %v", p.did, key, most, got, want)
				}
			}
			p.look()
		}
	}
}

// A tree may hold itself: its values are its user's business.
func TestATreeOfTrees(t *testing.T) {
	type tree struct{ of *btree.Tree[tree] }
	x := btree.New[tree]()
	for k := range 20 {
		x.Put(name(k), tree{of: x})
	}
	c := x.Copy()
	if v, is := c.Get(name(7)); !is || v.of != x || c.Len() != 20 {
		t.Error("the value is another one")
	}
}
