package heap_test

import (
	"bytes"
	"slices"
	"testing"

	"quarantine/heap"
)

// withRoom tells a copy of b with spare room, and something in it.
func withRoom(b []byte) []byte {
	return slices.Concat(b, made(77, 300))[:len(b)]
}

// inside tells all of l, with its spare room.
func inside[T any](l []T) []T { return l[:cap(l)] }

// spoil makes all of l another, its spare room too.
func spoil[T byte | uint64](l []T) {
	l = inside(l)
	for i := range l {
		l[i] += 101
	}
}

// R3: what is handed in stays as it was, spare room too; what stands in the spare room says nothing; nothing of it is kept

func TestWhatIsHandedInStays(t *testing.T) {
	d := dice(21)
	for range 20 {
		p := starting(t)
		for step := range 100 {
			c := somecall(&d, &p.plain, step)
			c.b = withRoom(c.b)
			was := slices.Clone(inside(c.b))
			p.ask(c)
			if !bytes.Equal(inside(c.b), was) {
				t.Fatalf("%v changes what is handed in", p.did)
			}
			spoil(c.b)
			p.look()
		}
	}
}

// R3: what is told is new memory, spare room too

func TestWhatIsToldIsNewMemory(t *testing.T) {
	d := dice(22)
	for range 20 {
		p := starting(t)
		for step := range 100 {
			p.ask(somecall(&d, &p.plain, step))
			ids, again := p.heap.IDs(), p.heap.IDs()
			spoil(ids)
			if !slices.Equal(again, p.plain.ids) {
				t.Fatalf("%v: two of IDs share memory", p.did)
			}
			spoil(again)
			for i, id := range p.plain.ids {
				b, _ := p.heap.Get(id)
				again, _ := p.heap.Get(id)
				spoil(b)
				if !bytes.Equal(again, p.plain.records[i]) {
					t.Fatalf("%v: two of Get(%d) share memory", p.did, id)
				}
				spoil(again)
			}
			p.look()
		}
	}
}

// What was told of a heap is not its copy's either.
func TestWhatIsToldOfACopyIsNewMemory(t *testing.T) {
	p := starting(t, puts(100, 100, 200))
	c := p.copied()
	for _, one := range []*pair{p, c} {
		for _, id := range one.heap.IDs() {
			b, _ := one.heap.Get(id)
			spoil(b)
		}
		spoil(one.heap.IDs())
	}
	p.look()
	c.look()
}

// What was told stays as it was, whatever is done to the heap.
func TestWhatWasToldStays(t *testing.T) {
	h := heap.New()
	h.Put(1, []byte("first"))
	h.Put(2, []byte("second"))
	b, _ := h.Get(1)
	ids := h.IDs()
	h.Put(1, []byte("other"))
	h.Drop(2)
	h.Put(0, made(1, 200))
	h.Put(1, made(2, 200))
	h.Drop(1)
	if string(b) != "first" || !slices.Equal(ids, []uint64{1, 2}) {
		t.Errorf("became %q, %v", b, ids)
	}
}

// R4: a call hangs on what was done to its heap alone: of two that had the same calls both tell the same

func TestTheSameEachTime(t *testing.T) {
	d := dice(23)
	for range 10 {
		one, other := starting(t), starting(t)
		for step := range 150 {
			one.ask(somecall(&d, &one.plain, step))
			other.ask(somecall(&d, &other.plain, step))
		}
		for _, p := range []*pair{one, other} {
			p.look()
			for range 3 {
				if again := starting(t, p.did); again.heap.Pages() != p.heap.Pages() {
					t.Fatalf("%v: %d pages, and then %d", p.did, p.heap.Pages(), again.heap.Pages())
				}
			}
		}
	}
}
