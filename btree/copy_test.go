package btree_test

import (
	"slices"
	"testing"

	"quarantine/btree"
)

// grown tells a pair behind so many calls.
func grown(t testing.TB, d *dice, steps int) *pair {
	p := starting(t)
	for step := range steps {
		p.ask(somecall(d, &p.plain, step))
	}
	return p
}

// P15.1 Copy: another one, the same: it has the same pairs and levels

func TestCopyHasTheSame(t *testing.T) {
	d := dice(51)
	for steps := range 150 {
		p := grown(t, &d, 2*steps)
		levels := p.tree.Levels()
		c := p.copied()
		c.lookAround()
		p.look()
		if c.tree == p.tree || !sameLevels(levels, c.tree.Levels()) || !sameLevels(levels, p.tree.Levels()) {
			t.Fatalf("%v: %v, %v of the copy", p.did, levels, c.tree.Levels())
		}
	}
}

// P15.1 Copy: what is done to one of the two leaves the other as it was, both ways

func TestCopyIsAnother(t *testing.T) {
	d := dice(52)
	for round := range 60 {
		p := grown(t, &d, 5+5*round)
		two := []*pair{p, p.copied()}
		for turn := range 4 {
			one, other := two[turn%2], two[1-turn%2]
			levels := other.tree.Levels()
			for step := range 40 {
				one.ask(somecall(&d, &one.plain, 1000*turn+step))
				one.look()
				other.look()
				if !sameLevels(levels, other.tree.Levels()) {
					t.Fatalf("%v: %v of the other one, which were %v", one.did, other.tree.Levels(), levels)
				}
			}
		}
	}
}

// Each single thing that may be done to one of the two, in trees of each count of keys: a new key, another value, a dropping.
func TestCopyAndEachCall(t *testing.T) {
	for n := range 40 {
		for turn := range 2 {
			for k := range n + 1 {
				for _, run := range [][]call{{{do: put, key: ahead(k), val: 1}}, {{do: put, key: name(k), val: -1}}, drops(k), drops(k, k+1, k+2, k+3)} {
					p := starting(t, puts(orders(n)[3]...))
					two := []*pair{p, p.copied()}
					levels := p.tree.Levels()
					for _, c := range run {
						two[turn].ask(c)
					}
					two[turn].look()
					two[1-turn].look()
					if !sameLevels(levels, two[1-turn].tree.Levels()) {
						t.Fatalf("%v: %v of the other one, which were %v", two[turn].did, two[1-turn].tree.Levels(), levels)
					}
				}
			}
		}
	}
}

// P15.1 Copy: a copy of a copy, when all are changed in turn

func TestCopyOfACopy(t *testing.T) {
	d := dice(53)
	for round := range 40 {
		all := []*pair{grown(t, &d, 10+4*round)}
		for range 3 {
			last := all[len(all)-1]
			for step := range d.next(6) {
				last.ask(somecall(&d, &last.plain, 100+step))
			}
			all = append(all, last.copied())
		}
		for step := range 100 {
			one := pick(&d, all...)
			one.ask(somecall(&d, &one.plain, 500+step))
			for _, p := range all {
				p.look()
			}
		}
	}
}

// A copy stays when the elder one has lost all, and grows anew; and the elder one when its copy has.
func TestCopyOutlivesTheOther(t *testing.T) {
	for turn := range 2 {
		p := starting(t, puts(orders(100)[4]...))
		two := []*pair{p, p.copied()}
		for k := range 100 {
			two[turn].tells(true, drops(k)[0])
		}
		two[1-turn].lookAround()
		for k := range 100 {
			two[turn].tells(false, call{do: put, key: name(k), val: -k})
		}
		two[1-turn].lookAround()
	}
}

func TestCopyOfOneWithoutKeys(t *testing.T) {
	emptied := starting(t, puts(1, 2), drops(1, 2)).tree
	for _, x := range []*btree.Tree[int]{btree.New[int](), {}, emptied} {
		p := starting(t)
		p.tree = x.Copy()
		p.lookAround()
		p.tells(false, puts(1)[0])
		if x.Len() != 0 || len(x.Levels()) != 0 || len(x.Scan(nil, 9)) != 0 {
			t.Errorf("%d keys", x.Len())
		}
		p.tree, p.plain = x, plain{}
		p.tells(false, puts(2)[0])
	}
}

// R4: a copy is the same: behind the same calls it tells the same, its levels too

func TestCopyGoesOnAlike(t *testing.T) {
	d := dice(54)
	for round := range 40 {
		p := grown(t, &d, 10+5*round)
		c := p.copied()
		for step := range 100 {
			one := somecall(&d, &p.plain, 300+step)
			p.ask(one)
			c.ask(one)
			if !sameLevels(p.tree.Levels(), c.tree.Levels()) {
				t.Fatalf("%v: %v, %v of the copy", p.did, p.tree.Levels(), c.tree.Levels())
			}
		}
		p.look()
		c.look()
	}
}

// P15.1 Copy: values are copied as they are: what a value refers to is one and the same

func TestCopyOfValues(t *testing.T) {
	x := btree.New[[]int]()
	vals := [][]int{{1}, {2}, nil}
	for k := range 30 {
		x.Put(name(k), vals[k%3])
	}
	c := x.Copy()
	vals[0][0] = 7
	for k := range 30 {
		one, _ := x.Get(name(k))
		other, is := c.Get(name(k))
		if !is || !slices.Equal(one, vals[k%3]) || !slices.Equal(other, vals[k%3]) || len(one) > 0 && &one[0] != &other[0] {
			t.Errorf("key %d: %v, %v", k, one, other)
		}
	}
}
