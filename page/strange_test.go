package page_test

import (
	"testing"

	"quarantine/api"
	"quarantine/page"
)

// P13.1: of a nil Page ErrArg, ahead of all other errors, nothing, 0

func TestANilPage(t *testing.T) {
	var p *page.Page
	for _, n := range []int{0, 1, 10, 200, 201, 1 << 16} {
		b := withRoom(made(1, n))
		was := string(inside(b))
		if slot, e := p.Put(b); slot != 0 || e != api.ErrArg {
			t.Errorf("Put of %d bytes: %d %d", n, slot, e)
		}
		for _, slot := range noSlots(0) {
			if e := p.Set(slot, b); e != api.ErrArg {
				t.Errorf("Set(%d) of %d bytes: %d", slot, n, e)
			}
		}
		if string(inside(b)) != was {
			t.Errorf("%d bytes were changed", n)
		}
	}
	for _, slot := range noSlots(0) {
		if b, e := p.Get(slot); len(b) != 0 || e != api.ErrArg {
			t.Errorf("Get(%d): %v %d", slot, b, e)
		}
		if e := p.Drop(slot); e != api.ErrArg {
			t.Errorf("Drop(%d): %d", slot, e)
		}
	}
	if len(p.Slots()) != 0 || p.Free() != 0 || len(p.Bytes()) != 0 {
		t.Errorf("%v, %d, %v", p.Slots(), p.Free(), p.Bytes())
	}
}

// P13.1: a zero one is as a new one, whichever call is the first

func TestAZeroPage(t *testing.T) {
	first := map[string]func(p *page.Page){
		"nothing": func(p *page.Page) {},
		"Put": func(p *page.Page) {
			if slot, e := p.Put(made(1, 5)); slot != 0 || e != api.OK || p.Drop(0) != api.OK {
				t.Errorf("Put: %d %d", slot, e)
			}
		},
		"Get": func(p *page.Page) {
			if b, e := p.Get(0); len(b) != 0 || e != api.ErrNone {
				t.Errorf("Get: %v %d", b, e)
			}
		},
		"Set": func(p *page.Page) {
			if e := p.Set(0, made(1, 5)); e != api.ErrNone {
				t.Errorf("Set: %d", e)
			}
		},
		"Drop": func(p *page.Page) {
			if e := p.Drop(0); e != api.ErrNone {
				t.Errorf("Drop: %d", e)
			}
		},
		"Slots": func(p *page.Page) {
			if l := p.Slots(); len(l) != 0 {
				t.Errorf("Slots: %v", l)
			}
		},
		"Free": func(p *page.Page) {
			if n := p.Free(); n != 248 {
				t.Errorf("Free: %d", n)
			}
		},
		"Bytes": func(p *page.Page) {
			if b := p.Bytes(); string(b) != string(page.New().Bytes()) {
				t.Errorf("Bytes: %v", b)
			}
		},
	}
	for _, call := range first {
		p := starting(t)
		p.page = &page.Page{}
		call(p.page)
		p.has(248)
		d := dice(31)
		for step := range 200 {
			p.ask(somecall(&d, &p.plain, step))
			p.look()
		}
	}
}

// R1, R2: whatever is handed in, in whatever state a page is

func TestWhateverIsHandedIn(t *testing.T) {
	d := dice(32)
	for range 300 {
		p := starting(t)
		for step := range 40 {
			p.ask(somecall(&d, &p.plain, step))
		}
		for _, slot := range append(noSlots(len(p.plain.records)), 0, 1, 2, 3) {
			for _, n := range []int{0, 1, 199, 200, 201, 255, 256, 257, 1 << 12} {
				p.ask(call{do: set, slot: slot, b: made(n, n)})
				p.look()
			}
			p.ask(call{do: drop, slot: slot})
			p.look()
		}
	}
}
