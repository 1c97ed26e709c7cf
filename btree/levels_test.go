package btree_test

import (
	"slices"
	"testing"

	"quarantine/btree"
)

func sameLevels(a, b [][]int) bool {
	return slices.EqualFunc(a, b, func(a, b []int) bool { return slices.Equal(a, b) })
}

// The chapter's examples: six keys, and seven.
func TestExamples(t *testing.T) {
	for _, order := range orders(6) {
		if l := starting(t, puts(order...)).tree.Levels(); !sameLevels(l, [][]int{{6}}) {
			t.Errorf("%v: %v", order, l)
		}
	}
	for _, order := range orders(7) {
		l := starting(t, puts(order...)).tree.Levels()
		if !sameLevels(l, [][]int{{1}, {4, 3}}) && !sameLevels(l, [][]int{{1}, {3, 4}}) {
			t.Errorf("%v: %v", order, l)
		}
	}
}

// P15.2 Levels: without keys there are none, behind droppings of all too; up to six keys there is one, more are in two or more

func TestLevelsOfFew(t *testing.T) {
	for _, order := range orders(6) {
		p := starting(t)
		for turn := range 2 {
			if l := p.tree.Levels(); len(l) != 0 {
				t.Errorf("turn %d: %v", turn, l)
			}
			for i, k := range order {
				p.tells(false, puts(k)[0])
				if l := p.tree.Levels(); !sameLevels(l, [][]int{{i + 1}}) {
					t.Errorf("%d keys: %v", i+1, l)
				}
			}
			for i, k := range order {
				p.tells(true, drops(k)[0])
				if l := p.tree.Levels(); i < 5 && !sameLevels(l, [][]int{{5 - i}}) {
					t.Errorf("%d keys: %v", 5-i, l)
				}
			}
		}
	}
}

// All orders in which seven keys may be put.
func TestLevelsOfAllOrders(t *testing.T) {
	var grow func(p *pair)
	grow = func(p *pair) {
		p.look()
		for k := range 7 {
			if _, is := p.plain.Get(name(k)); !is {
				next := p.copied()
				next.ask(puts(k)[0])
				grow(next)
			}
		}
	}
	grow(starting(t))
}

// P15.2, and what follows: each count of keys up to a few hundred, put and dropped in each order, looked at after each call

func TestLevelsOfMany(t *testing.T) {
	const n = 400
	deepest := 0
	for _, up := range orders(n) {
		for _, down := range orders(n) {
			x := btree.New[int]()
			look := func(keys int) {
				t.Helper()
				l := x.Levels()
				deepest = max(deepest, len(l))
				if wrong := shape(l, keys); wrong != "" || x.Len() != keys {
					t.Fatalf("%d keys: %v: %s", keys, l, wrong)
				}
				if wrong := x.Amiss(); wrong != "" {
					t.Fatalf("%d keys: %v: %s", keys, l, wrong)
				}
			}
			for i, k := range up {
				x.Put(name(k), k)
				look(i + 1)
				x.Put(name(up[i/2]), k)
				look(i + 1)
			}
			for i, k := range down {
				x.Drop(name(k))
				look(n - 1 - i)
				x.Drop(name(down[i/2]))
				look(n - 1 - i)
			}
		}
	}
	if deepest < 4 {
		t.Errorf("at most %d levels", deepest)
	}
}

// Trees that grow and shrink in turn, each time by as many keys.
func TestLevelsUpAndDown(t *testing.T) {
	for _, by := range []int{1, 3, 7, 40} {
		p := starting(t)
		d := dice(by)
		for next := 0; next < 600; {
			for range 2 * by {
				p.tells(false, puts(next)[0])
				next++
			}
			for range by {
				p.tells(true, call{do: drop, key: pick(&d, p.plain.pairs...).Key})
			}
		}
		for len(p.plain.pairs) > 0 {
			p.tells(true, call{do: drop, key: pick(&d, p.plain.pairs...).Key})
		}
	}
}

// The nodes of a level stand from the left: a key that is dropped from a leaf with some to spare, or put into one with room, changes the count of that leaf alone.
func TestLeavesFromTheLeft(t *testing.T) {
	for _, order := range orders(150) {
		p := starting(t, puts(order...))
		levels := p.tree.Levels()
		last := len(levels) - 1
		k := 0
		for i, many := range levels[last] {
			for range many {
				if many > 3 {
					one := p.copied()
					one.tells(true, drops(k)[0])
					becomes(one, levels, i, -1)
				}
				if many < 6 {
					one := p.copied()
					one.tells(false, call{do: put, key: append(name(k), '+')})
					becomes(one, levels, i, 1)
				}
				k++
			}
		}
	}
}

// becomes holds the levels of a tree to those, with so many keys more in the leaf at that place.
func becomes(p *pair, levels [][]int, leaf, more int) {
	p.t.Helper()
	last := len(levels) - 1
	want := slices.Clone(levels)
	want[last] = slices.Clone(want[last])
	want[last][leaf] += more
	if got := p.tree.Levels(); !sameLevels(got, want) {
		p.t.Fatalf("%v: %v, not %v", p.did, got, want)
	}
}
