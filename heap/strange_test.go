package heap_test

import (
	"testing"

	"quarantine/api"
	"quarantine/heap"
)

// P14.1: of a nil Heap ErrArg, ahead of all other errors, nothing, 0, Copy nil

func TestANilHeap(t *testing.T) {
	var h *heap.Heap
	for _, id := range edges() {
		for _, n := range []int{0, 1, 10, 200, 201, 1 << 16} {
			b := withRoom(make([]byte, n))
			was := string(inside(b))
			if e := h.Put(id, b); e != api.ErrArg {
				t.Errorf("Put(%d) of %d bytes: %d", id, n, e)
			}
			if string(inside(b)) != was {
				t.Errorf("%d bytes were changed", n)
			}
		}
		if e := h.Put(id, nil); e != api.ErrArg {
			t.Errorf("Put(%d) of nil: %d", id, e)
		}
		if b, e := h.Get(id); len(b) != 0 || e != api.ErrArg {
			t.Errorf("Get(%d): %v %d", id, b, e)
		}
		if e := h.Drop(id); e != api.ErrArg {
			t.Errorf("Drop(%d): %d", id, e)
		}
	}
	if len(h.IDs()) != 0 || h.Len() != 0 || h.Pages() != 0 || h.Copy() != nil {
		t.Errorf("%v, %d, %d, %v", h.IDs(), h.Len(), h.Pages(), h.Copy())
	}
}

// P14.1: a zero one is as a new one, whichever call is the first

func TestAZeroHeap(t *testing.T) {
	first := map[string]func(h *heap.Heap) bool{
		"nothing": func(h *heap.Heap) bool { return true },
		"Put":     func(h *heap.Heap) bool { return h.Put(3, made(1, 5)) == api.OK && h.Drop(3) == api.OK },
		"no Put":  func(h *heap.Heap) bool { return h.Put(3, nil) == api.ErrLong },
		"Get": func(h *heap.Heap) bool {
			b, e := h.Get(0)
			return len(b) == 0 && e == api.ErrNone
		},
		"Drop":  func(h *heap.Heap) bool { return h.Drop(0) == api.ErrNone },
		"IDs":   func(h *heap.Heap) bool { return len(h.IDs()) == 0 },
		"Len":   func(h *heap.Heap) bool { return h.Len() == 0 },
		"Pages": func(h *heap.Heap) bool { return h.Pages() == 0 },
		"Copy": func(h *heap.Heap) bool {
			c := h.Copy()
			return c != nil && c != h && c.Len() == 0 && c.Put(3, made(1, 5)) == api.OK
		},
	}
	for name, call := range first {
		p := starting(t)
		p.heap = &heap.Heap{}
		if !call(p.heap) {
			t.Errorf("%s of a zero one", name)
		}
		p.has()
		d := dice(31)
		for step := range 200 {
			p.ask(somecall(&d, &p.plain, step))
			p.look()
		}
	}
}

// New tells another one each time.
func TestNewTellsAnother(t *testing.T) {
	one, other := heap.New(), heap.New()
	one.Put(1, made(1, 1))
	if one == other || other.Len() != 0 || heap.New().Len() != 0 {
		t.Error("they are one")
	}
}

// R1, R2: whatever is handed in, in whatever state a heap is

func TestWhateverIsHandedIn(t *testing.T) {
	d := dice(32)
	for round := range 30 {
		p := starting(t)
		for step := range 3 * round {
			p.ask(somecall(&d, &p.plain, step))
		}
		for _, id := range edges() {
			for _, n := range []int{0, 1, 199, 200, 201, 255, 256, 257, 1 << 12} {
				p.ask(call{do: put, id: id, b: make([]byte, n)})
				p.look()
			}
			if d.next(2) == 0 {
				p.ask(call{do: drop, id: id})
				p.look()
			}
		}
	}
}
