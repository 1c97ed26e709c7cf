package heap_test

import (
	"slices"
	"testing"

	"quarantine/api"
)

// P14.1 Pages: none, if there are no records

func TestPagesOfNone(t *testing.T) {
	p := starting(t)
	if p.heap.Pages() != 0 {
		t.Errorf("%d pages of a new one", p.heap.Pages())
	}
	p.tells(api.ErrLong, call{do: put, b: nil})
	p.tells(api.ErrLong, call{do: put, b: make([]byte, 201)})
	p.tells(api.ErrNone, call{do: drop, id: 3})
	if p.heap.Pages() != 0 {
		t.Errorf("%d pages beside errors", p.heap.Pages())
	}
	p.tells(api.OK, call{do: put, b: made(1, 1)})
	if n := p.heap.Pages(); n != 1 && n != 2 {
		t.Errorf("%d pages of one record", n)
	}
	p.tells(api.OK, call{do: drop})
	if p.heap.Pages() != 0 {
		t.Errorf("%d pages of none", p.heap.Pages())
	}
}

// P14.1 Pages: as many as records need, and at most one more than there are records

func TestPagesOfGreatRecords(t *testing.T) {
	for count := range 30 {
		for _, length := range []int{121, 150, 199, 200} {
			p := starting(t, many(count, length))
			p.look()
			if n := p.heap.Pages(); n < count || n > count+1 || count == 0 && n != 0 {
				t.Errorf("%d pages of %d records of %d bytes", n, count, length)
			}
		}
	}
}

// No sentence asks for it, but it is what pages are for: each takes as many records as fit.
func TestPagesAreFilled(t *testing.T) {
	for _, x := range []struct{ length, fit int }{{1, 49}, {2, 41}, {4, 31}, {58, 4}, {78, 3}, {119, 2}, {120, 2}, {121, 1}, {200, 1}} {
		for count := range 3*x.fit + 2 {
			p := starting(t, many(count, x.length))
			p.look()
			if n := p.heap.Pages(); n != (count+x.fit-1)/x.fit {
				t.Errorf("%d pages of %d records of %d bytes", n, count, x.length)
			}
		}
	}
}

// What is dropped makes room for another one of its length, wherever it lay: no page more is needed.
func TestPagesAreFilledAgain(t *testing.T) {
	d := dice(51)
	for _, length := range []int{1, 2, 4, 58, 78, 120, 200} {
		p := starting(t, many(100, length))
		was := p.heap.Pages()
		for step := range 100 {
			gone := uint64(d.next(100))
			p.tells(api.OK, call{do: drop, id: gone})
			p.tells(api.OK, call{do: put, id: gone, b: made(step, length)})
			if p.heap.Pages() != was {
				t.Fatalf("%d bytes: %d pages, and were %d", length, p.heap.Pages(), was)
			}
		}
	}
}

// P14.1 Pages: none behind droppings of all of them, in whatever order; and all begins anew

func TestPagesBehindDroppingsOfAll(t *testing.T) {
	d := dice(52)
	for round := range 40 {
		p := starting(t)
		for range 3 {
			for step := range 1 + d.next(80) {
				p.ask(call{do: put, id: uint64(d.next(60)), b: made(step, pick(&d, 1+d.next(5), 1+d.next(200), 200))})
			}
			p.look()
			gone := slices.Clone(p.plain.ids)
			switch round % 4 {
			case 1:
				slices.Reverse(gone)
			case 2, 3:
				for i := range gone {
					k := d.next(i + 1)
					gone[i], gone[k] = gone[k], gone[i]
				}
			}
			for _, id := range gone {
				p.tells(api.OK, call{do: drop, id: id})
			}
			if p.heap.Pages() != 0 || p.heap.Len() != 0 {
				t.Fatalf("%v: %d pages, %d records", p.did, p.heap.Pages(), p.heap.Len())
			}
		}
	}
}

// P14.1 Pages: few records that are left of many, that lay in as many pages, or in one

func TestPagesOfWhatIsLeft(t *testing.T) {
	for _, length := range []int{1, 10, 58, 120, 200} {
		for left := range uint64(8) {
			for _, step := range []uint64{1, 3, 20, 25} {
				p := starting(t, many(200, length))
				for id := range uint64(200) {
					if id%step != 0 || id/step >= left {
						p.ask(call{do: drop, id: id})
					}
				}
				p.look()
				if n := p.heap.Pages(); n > int(left)+1 || left == 0 && n != 0 {
					t.Errorf("%d pages of %d records of %d bytes", n, left, length)
				}
			}
		}
	}
}

// P14.1 Pages: records that become greater and smaller, in whatever order

func TestPagesOfChangingRecords(t *testing.T) {
	d := dice(53)
	for range 20 {
		p := starting(t, many(5+d.next(20), 1+d.next(200)))
		for step := range 200 {
			id := pick(&d, p.plain.ids...)
			p.tells(api.OK, call{do: put, id: id, b: made(step, pick(&d, 1, 200, 1+d.next(200)))})
		}
	}
}
