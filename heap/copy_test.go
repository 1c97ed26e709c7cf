package heap_test

import (
	"slices"
	"testing"

	"quarantine/api"
	"quarantine/heap"
)

// grown tells a pair behind so many calls.
func grown(t testing.TB, d *dice, steps int) *pair {
	p := starting(t)
	for step := range steps {
		p.ask(somecall(d, &p.plain, step))
	}
	return p
}

// P14.1 Copy: another one, with the same records, and as many pages

func TestCopyHasTheSame(t *testing.T) {
	d := dice(61)
	for steps := range 120 {
		p := grown(t, &d, steps)
		c := p.copied()
		c.look()
		p.look()
		if c.heap == p.heap || c.heap.Pages() != p.heap.Pages() {
			t.Fatalf("%v: %d pages, %d of the copy", p.did, p.heap.Pages(), c.heap.Pages())
		}
	}
}

// P14.1 Copy: what is done to one of the two leaves the other as it was, both ways

func TestCopyIsAnother(t *testing.T) {
	d := dice(62)
	for round := range 60 {
		p := grown(t, &d, 5+round)
		c := p.copied()
		pages := p.heap.Pages()
		for step := range 40 {
			c.ask(somecall(&d, &c.plain, 1000+step))
			c.look()
			p.look()
			if p.heap.Pages() != pages {
				t.Fatalf("%v: %d pages, and were %d", c.did, p.heap.Pages(), pages)
			}
		}
		pages = c.heap.Pages()
		for step := range 40 {
			p.ask(somecall(&d, &p.plain, 2000+step))
			p.look()
			c.look()
			if c.heap.Pages() != pages {
				t.Fatalf("%v: %d pages of the copy, and were %d", p.did, c.heap.Pages(), pages)
			}
		}
	}
}

// Each single thing that may be done to one of the two: a new number, one in another's stead, in its place or elsewhere, a dropping, droppings of all.
func TestCopyAndEachCall(t *testing.T) {
	runs := [][]call{
		{{do: put, id: 9, b: made(9, 9)}}, {{do: put, id: 0, b: made(9, 100)}}, {{do: put, id: 0, b: made(9, 1)}}, {{do: put, id: 1, b: made(9, 200)}},
		drops(0), drops(1), drops(2), drops(2, 1, 0), drops(0, 1, 2),
	}
	for _, run := range runs {
		for _, both := range [][2]int{{0, 1}, {1, 0}} {
			p := starting(t, puts(100, 100, 200))
			two := []*pair{p, p.copied()}
			for _, c := range run {
				two[both[0]].tells(api.OK, c)
			}
			two[both[1]].has(made(0, 100), made(1, 100), made(2, 200))
		}
	}
}

// P14.1 Copy: a copy of a copy, when all three are changed in turn

func TestCopyOfACopy(t *testing.T) {
	d := dice(63)
	for round := range 40 {
		all := []*pair{grown(t, &d, 10+2*round)}
		for range 3 {
			last := all[len(all)-1]
			for step := range d.next(6) {
				last.ask(somecall(&d, &last.plain, 100+step))
			}
			all = append(all, last.copied())
		}
		for step := range 80 {
			one := pick(&d, all...)
			one.ask(somecall(&d, &one.plain, 500+step))
			for _, p := range all {
				p.look()
			}
		}
	}
}

// A copy stays when the elder one has lost all, and is no longer held.
func TestCopyOutlivesTheElder(t *testing.T) {
	p := starting(t, puts(100, 100, 40, 200, 1))
	c := p.copied()
	p.tells(api.OK, call{do: put, id: 3, b: made(9, 3)})
	for _, id := range slices.Clone(p.plain.ids) {
		p.tells(api.OK, call{do: drop, id: id})
	}
	p.heap = nil
	c.has(made(0, 100), made(1, 100), made(2, 40), made(3, 200), made(4, 1))
}

func TestCopyOfOneWithoutRecords(t *testing.T) {
	for _, h := range []*heap.Heap{heap.New(), {}, starting(t, puts(200, 1), drops(0, 1)).heap} {
		p := starting(t)
		p.heap = h.Copy()
		p.has()
		p.tells(api.OK, call{do: put, b: made(1, 1)})
		if h.Len() != 0 || h.Pages() != 0 || len(h.IDs()) != 0 {
			t.Errorf("%d records, %d pages", h.Len(), h.Pages())
		}
		p.heap = h
		p.plain = plain{}
		p.tells(api.OK, call{do: put, b: made(1, 1)})
	}
}

// R4: a copy is the same: behind the same calls it tells the same, the count of its pages too

func TestCopyGoesOnAlike(t *testing.T) {
	d := dice(64)
	for round := range 40 {
		p := grown(t, &d, 10+3*round)
		c := p.copied()
		for step := range 80 {
			one := somecall(&d, &p.plain, 300+step)
			p.ask(one)
			c.ask(one)
			if p.heap.Pages() != c.heap.Pages() {
				t.Fatalf("%v: %d pages, %d of the copy", p.did, p.heap.Pages(), c.heap.Pages())
			}
		}
	}
}
