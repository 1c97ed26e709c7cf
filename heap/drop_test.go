package heap_test

import (
	"math"
	"slices"
	"testing"

	"quarantine/api"
	"quarantine/heap"
)

// P14.1 Get, Drop: a number that never had a record

func TestNumbersThatNeverHadARecord(t *testing.T) {
	for _, p := range []*pair{
		starting(t),
		starting(t, puts(1)),
		starting(t, puts(200, 200, 200)),
		starting(t, many(100, 20)),
		starting(t, many(100, 20), drops(0, 50, 99)),
		starting(t, []call{{do: put, id: math.MaxUint64, b: made(1, 1)}}),
	} {
		for _, id := range append(edges(), 3, 50, 99, 100, 101) {
			if _, is := p.plain.place(id); is {
				continue
			}
			if b, e := p.heap.Get(id); len(b) != 0 || e != api.ErrNone {
				t.Errorf("%v: Get(%d): %v %d", p.did, id, b, e)
			}
			p.tells(api.ErrNone, call{do: drop, id: id})
		}
	}
}

// P14.1 Get, Drop: a number that was dropped, and one that was dropped and put again

func TestDropAndPutAgain(t *testing.T) {
	for _, id := range edges() {
		h := heap.New()
		is := func(want string) {
			t.Helper()
			e := api.OK
			if want == "" {
				e = api.ErrNone
			}
			if b, err := h.Get(id); string(b) != want || err != e {
				t.Errorf("Get(%d): %q %d, not %q", id, b, err, want)
			}
		}
		h.Put(7, []byte("other"))
		h.Put(id, []byte("elder"))
		is("elder")
		if e := h.Drop(id); e != api.OK {
			t.Errorf("Drop(%d): %d", id, e)
		}
		is("")
		if e := h.Drop(id); e != api.ErrNone {
			t.Errorf("Drop(%d) again: %d", id, e)
		}
		is("")
		if e := h.Put(id, []byte("new")); e != api.OK {
			t.Errorf("Put(%d): %d", id, e)
		}
		is("new")
		if e := h.Drop(id); e != api.OK {
			t.Errorf("Drop(%d): %d", id, e)
		}
		is("")
		if b, e := h.Get(7); string(b) != "other" || e != api.OK || !slices.Equal(h.IDs(), []uint64{7}) {
			t.Errorf("the other one: %q %d, IDs %v", b, e, h.IDs())
		}
	}
}

// Dropping one leaves all others, in its page and elsewhere.
func TestDropLeavesTheOthers(t *testing.T) {
	lengths := []int{30, 1, 200, 60, 60, 119, 4, 121, 7, 200, 2}
	for id := range lengths {
		p := starting(t, puts(lengths...))
		var all [][]byte
		for i, n := range lengths {
			all = append(all, made(i, n))
		}
		p.tells(api.OK, call{do: drop, id: uint64(id)})
		all[id] = nil
		p.has(all...)
		p.tells(api.ErrNone, call{do: drop, id: uint64(id)})
		p.tells(api.OK, call{do: put, id: uint64(id), b: made(77, 50)})
		all[id] = made(77, 50)
		p.has(all...)
	}
}

// P14.1 IDs, Len: in whatever order numbers come and go

func TestIDsInWhateverOrder(t *testing.T) {
	all := []uint64{0, 4, 9, 1 << 32, 1 << 63, math.MaxUint64}
	orders(all, func(come []uint64) {
		h := heap.New()
		var want []uint64
		is := func(what string, id uint64) {
			t.Helper()
			if got := h.IDs(); !slices.Equal(got, want) || h.Len() != len(want) {
				t.Fatalf("%v, %s(%d): IDs %v, Len %d", come, what, id, got, h.Len())
			}
		}
		for _, id := range come {
			h.Put(id, []byte("some"))
			want = append(want, id)
			slices.Sort(want)
			is("Put", id)
			h.Put(come[0], []byte("other"))
			is("Put", come[0])
		}
		for _, id := range come {
			h.Drop(id)
			want = slices.DeleteFunc(want, func(x uint64) bool { return x == id })
			is("Drop", id)
		}
	})
}

// orders does something with each order of l.
func orders(l []uint64, do func(l []uint64)) {
	var from func(n int)
	from = func(n int) {
		if n == len(l) {
			do(slices.Clone(l))
			return
		}
		for i := n; i < len(l); i++ {
			l[n], l[i] = l[i], l[n]
			from(n + 1)
			l[n], l[i] = l[i], l[n]
		}
	}
	from(0)
}
