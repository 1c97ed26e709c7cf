package btree_test

import "testing"

// P15.1 Drop: was there one?

func TestDrop(t *testing.T) {
	p := starting(t, puts(2, 1, 3))
	p.tells(false, call{do: drop, key: name(4)})
	p.tells(true, call{do: drop, key: name(2)})
	p.tells(false, call{do: drop, key: name(2)})
	p.tells(true, call{do: drop, key: name(3)})
	p.tells(true, call{do: drop, key: name(1)})
	p.tells(false, call{do: drop, key: name(1)})
	p.tells(false, call{do: drop, key: nil})
	p.lookAround()
}

// A key that never was: none changes, whichever is asked for.
func TestDropOfNone(t *testing.T) {
	for n := range 60 {
		p := starting(t, puts(orders(n)[4]...))
		levels := p.tree.Levels()
		for k := range n + 1 {
			p.ask(call{do: drop, key: ahead(k)})
			p.ask(call{do: drop, key: append(ahead(k), 255)})
		}
		p.look()
		if !sameLevels(levels, p.tree.Levels()) {
			t.Fatalf("%d keys: %v became %v", n, levels, p.tree.Levels())
		}
	}
}

// All runs of droppings of a tree of two levels: each key in each order.
func TestAllDroppings(t *testing.T) {
	var grow func(p *pair)
	grow = func(p *pair) {
		p.look()
		for _, one := range p.plain.pairs {
			next := p.copied()
			next.tells(true, call{do: drop, key: one.Key})
			next.tells(false, call{do: drop, key: one.Key})
			grow(next)
		}
	}
	for _, order := range [][]int{{0, 1, 2, 3, 4, 5, 6}, {6, 5, 4, 3, 2, 1, 0}} {
		grow(starting(t, puts(order...)))
	}
}

// All pairs of keys of greater trees, one dropped behind the other, and put again.
func TestDropOfTwo(t *testing.T) {
	for _, n := range []int{12, 21, 28, 50} {
		for _, order := range orders(n)[:3] {
			p := starting(t, puts(order...))
			for k := range n {
				one := p.copied()
				one.tells(true, call{do: drop, key: name(k)})
				for other := range n {
					two := one.copied()
					two.tells(other != k, call{do: drop, key: name(other)})
				}
			}
		}
	}
}

// What is dropped from one end on while the other end grows.
func TestAQueue(t *testing.T) {
	for _, length := range []int{1, 6, 7, 20, 100} {
		p := starting(t)
		for k := range 400 {
			p.tells(false, puts(k)[0])
			if k >= length {
				p.tells(true, drops(k - length)[0])
			}
		}
		p.lookAround()
	}
}

// P15.1 Len: how many keys there are

func TestLen(t *testing.T) {
	p := starting(t)
	has := func(want int) {
		t.Helper()
		if got := p.tree.Len(); got != want {
			t.Errorf("%v: %d, not %d", p.did, got, want)
		}
	}
	has(0)
	for k := range 100 {
		p.ask(puts(k)[0])
		has(k + 1)
		p.ask(puts(k / 2)[0])
		has(k + 1)
		p.ask(drops(k + 1)[0])
		has(k + 1)
	}
	for k := range 100 {
		p.ask(drops(99 - k)[0])
		has(99 - k)
		p.ask(drops(99 - k)[0])
		has(99 - k)
	}
}
