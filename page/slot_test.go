package page_test

import (
	"testing"

	"quarantine/api"
	"quarantine/page"
)

// P13.1 Get, Set, Drop: slots without a record

func TestSlotsWithoutARecord(t *testing.T) {
	for _, p := range []*pair{
		starting(t),
		starting(t, puts(1)),
		starting(t, puts(1), drops(0)),
		starting(t, puts(10, 20, 30)),
		starting(t, puts(10, 20, 30, 40), drops(1, 3)),
		starting(t, puts(10, 20, 30, 40), drops(0, 2)),
		starting(t, puts(200, 40)),
		starting(t, puts(200, 40), drops(0)),
		starting(t, puts(1, 1, 1, 1, 1), drops(0, 1, 2, 3, 4)),
	} {
		none := noSlots(len(p.plain.records))
		for slot, r := range p.plain.records {
			if len(r) == 0 {
				none = append(none, slot)
			}
		}
		for _, slot := range none {
			if b, e := p.page.Get(slot); len(b) != 0 || e != api.ErrNone {
				t.Errorf("%v: Get(%d): %v %d", p.did, slot, b, e)
			}
			p.tells(api.ErrNone, call{do: set, slot: slot, b: made(1, 1)})
			p.tells(api.ErrNone, call{do: drop, slot: slot})
		}
		p.look()
	}
}

// P13.1 Set: ErrNone, ErrLong, ErrFull, in that order

func TestSetTellsTheFirstError(t *testing.T) {
	p := starting(t, puts(100, 50, 82), drops(1))
	for _, n := range []int{0, 1, 50, 132, 133, 151, 200, 201, 1 << 16} {
		for _, slot := range append(noSlots(3), 1) {
			p.tells(api.ErrNone, call{do: set, slot: slot, b: make([]byte, n)})
		}
	}
	for _, n := range []int{0, 201, 202, 256, 1 << 16} {
		p.tells(api.ErrLong, call{do: set, slot: 0, b: make([]byte, n)})
		p.tells(api.ErrLong, call{do: set, slot: 2, b: make([]byte, n)})
	}
	p.tells(api.ErrFull, call{do: set, slot: 0, b: make([]byte, 200)})
	p.tells(api.ErrFull, call{do: set, slot: 0, b: make([]byte, 155)})
	p.tells(api.ErrFull, call{do: set, slot: 2, b: make([]byte, 137)})
	p.has(54, made(0, 100), nil, made(2, 82))
}

// P13.1 Set: a shorter, a longer, an equal length; all others are as they were

func TestSetOfEachLength(t *testing.T) {
	for n := range 203 {
		for slot := range 3 {
			p := starting(t, puts(30, 60, 90))
			all := [][]byte{made(0, 30), made(1, 60), made(2, 90)}
			room := 56 + len(all[slot])
			want := api.OK
			switch {
			case n == 0 || n > 200:
				want = api.ErrLong
			case n > room:
				want = api.ErrFull
			}
			p.tells(want, call{do: set, slot: slot, b: made(7, n)})
			if want != api.OK {
				p.has(56, all...)
				continue
			}
			all[slot] = made(7, n)
			p.has(room-n, all...)
		}
	}
}

// In a page without room an equal length fits, and one byte more does not, whichever slot it is.
func TestSetInAFullPage(t *testing.T) {
	lengths := []int{5, 1, 100, 36, 50, 32}
	for slot, n := range lengths {
		p := starting(t, puts(lengths...))
		var all [][]byte
		for i, n := range lengths {
			all = append(all, made(i, n))
		}
		p.has(0, all...)
		p.tells(api.ErrFull, call{do: set, slot: slot, b: made(9, n+1)})
		p.has(0, all...)
		for _, n := range []int{n, max(1, n-1), 1, n} {
			all[slot] = made(10+n, n)
			p.tells(api.OK, call{do: set, slot: slot, b: all[slot]})
			p.has(lengths[slot]-n, all...)
		}
	}
}

// A record may be longer than what is free, if what it had itself is enough for the rest.
func TestSetUsesItsOwnRoom(t *testing.T) {
	p := starting(t, puts(100, 40), drops(1))
	p.tells(api.OK, call{do: set, slot: 0, b: made(5, 200)})
	p.has(44, made(5, 200))
	p = starting(t, puts(150, 50))
	p.has(40, made(0, 150), made(1, 50))
	p.tells(api.OK, call{do: set, slot: 0, b: made(5, 190)})
	p.has(0, made(5, 190), made(1, 50))
}

// P13.1 Set: a record that is shorter gives back what it no longer needs

func TestSetGivesBack(t *testing.T) {
	p := starting(t, puts(100, 100))
	p.tells(api.OK, call{do: set, slot: 0, b: made(5, 3)})
	p.has(137, made(5, 3), made(1, 100))
	p.tells(api.OK, call{do: put, b: made(6, 133)})
	p.has(0, made(5, 3), made(1, 100), made(6, 133))
}

// P13.1 Drop: one between others gives back its bytes alone; at the end the slot, too, and empty ones ahead of it

func TestDropGivesBack(t *testing.T) {
	p := starting(t, puts(10, 20, 30, 40, 50))
	p.has(78, made(0, 10), made(1, 20), made(2, 30), made(3, 40), made(4, 50))
	p.tells(api.OK, call{do: drop, slot: 2})
	p.has(108, made(0, 10), made(1, 20), nil, made(3, 40), made(4, 50))
	p.tells(api.OK, call{do: drop, slot: 4})
	p.has(162, made(0, 10), made(1, 20), nil, made(3, 40))
	p.tells(api.OK, call{do: drop, slot: 3})
	p.has(210, made(0, 10), made(1, 20))
	p.tells(api.OK, call{do: drop, slot: 0})
	p.has(220, nil, made(1, 20))
	p.tells(api.OK, call{do: drop, slot: 1})
	p.has(248)
	p.tells(api.OK, call{do: put, b: made(9, 200)})
	p.has(44, made(9, 200))
}

// Whichever are dropped, in whatever order: what is free hangs on those that are left alone.
func TestDropsInAnyOrder(t *testing.T) {
	d := dice(3)
	for range 500 {
		p := starting(t, puts(7, 1, 40, 3, 90, 12, 2, 33))
		for len(p.plain.records) > 0 {
			p.ask(call{do: drop, slot: d.next(8)})
			p.look()
		}
		p.has(248)
	}
}

// A record that was dropped is not there, also when another one is in its slot.
func TestDropAndPut(t *testing.T) {
	p := page.New()
	p.Put([]byte("elder"))
	p.Put([]byte("other"))
	if e := p.Drop(0); e != api.OK {
		t.Errorf("Drop: %d", e)
	}
	if b, e := p.Get(0); len(b) != 0 || e != api.ErrNone {
		t.Errorf("Get: %q %d", b, e)
	}
	p.Put([]byte("new"))
	if b, e := p.Get(0); string(b) != "new" || e != api.OK {
		t.Errorf("Get: %q %d", b, e)
	}
	if b, e := p.Get(1); string(b) != "other" || e != api.OK {
		t.Errorf("Get: %q %d", b, e)
	}
}
