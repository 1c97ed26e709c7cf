package heap_test

import (
	"bytes"
	"slices"
	"testing"

	"quarantine/api"
	"quarantine/heap"
)

// P14.1: the chapter's example

func TestExample(t *testing.T) {
	h := heap.New()
	for _, id := range []uint64{5, 3} {
		if e := h.Put(id, []byte("some")); e != api.OK {
			t.Errorf("Put(%d): %d", id, e)
		}
	}
	if got := h.IDs(); !slices.Equal(got, []uint64{3, 5}) {
		t.Errorf("IDs: %v", got)
	}
}

// P14.1 Put: a new number, whichever it is

func TestPutOfANewNumber(t *testing.T) {
	for _, id := range edges() {
		p := starting(t)
		p.tells(api.OK, call{do: put, id: id, b: []byte("new")})
		if b, e := p.heap.Get(id); string(b) != "new" || e != api.OK || p.heap.Len() != 1 {
			t.Errorf("Get(%d): %q %d, %d records", id, b, e, p.heap.Len())
		}
	}
	p := starting(t)
	for i, id := range edges() {
		p.tells(api.OK, call{do: put, id: id, b: made(i, 1+11*i)})
	}
	for i, id := range edges() {
		if b, e := p.heap.Get(id); !bytes.Equal(b, made(i, 1+11*i)) || e != api.OK {
			t.Errorf("Get(%d): %v %d", id, b, e)
		}
	}
}

// P14.1 Put: which lengths a record may have; of others ErrLong is told, and all is as it was, also of a number that has a record

func TestPutOfEachLength(t *testing.T) {
	lengths := []int{1 << 8, 1<<8 + 1, 1 << 16, 1<<16 + 1, 1<<16 + 200, 1 << 20}
	for n := range 700 {
		lengths = append(lengths, n)
	}
	for _, n := range lengths {
		want := api.OK
		if n < 1 || n > 200 {
			want = api.ErrLong
		}
		for id := range uint64(4) {
			p := starting(t, puts(10, 200, 1))
			all := [][]byte{made(0, 10), made(1, 200), made(2, 1), nil}
			b := made(7, min(n, 201))
			if n > len(b) {
				b = make([]byte, n)
			}
			p.tells(want, call{do: put, id: id, b: b})
			if want == api.OK {
				all[id] = b
			}
			p.has(all...)
		}
	}
	p := starting(t)
	p.tells(api.ErrLong, call{do: put, b: nil})
	p.tells(api.ErrLong, call{do: put, b: []byte{}})
	p.tells(api.ErrLong, call{do: put, b: make([]byte, 201)})
	p.has()
}

// P14.1 Put: a number that has a record: shorter, longer, of equal length; all others are as they were

func TestPutOfANumberThatHasARecord(t *testing.T) {
	lengths := []int{1, 2, 3, 4, 5, 40, 59, 60, 61, 119, 120, 121, 199, 200}
	for _, elder := range lengths {
		for _, other := range lengths {
			for _, n := range lengths {
				for id := range uint64(3) {
					p := starting(t, puts(elder, other, elder))
					all := [][]byte{made(0, elder), made(1, other), made(2, elder)}
					all[id] = made(9, n)
					p.ask(call{do: put, id: id, b: made(9, n)})
					p.has(all...)
				}
			}
		}
	}
}

// The same bytes once more change nothing.
func TestPutOfTheSameAgain(t *testing.T) {
	p := starting(t, puts(100, 100, 40, 200), puts(100, 100, 40, 200))
	pages := p.heap.Pages()
	for _, c := range puts(100, 100, 40, 200) {
		p.tells(api.OK, c)
	}
	p.has(made(0, 100), made(1, 100), made(2, 40), made(3, 200))
	if p.heap.Pages() != pages {
		t.Errorf("%d pages, and then %d", pages, p.heap.Pages())
	}
}

// P14.1 Put: a record that does not fit into the page where the elder one lies

func TestPutOfWhatDoesNotFitWhereItLay(t *testing.T) {
	p := starting(t, puts(120, 120))
	if p.heap.Pages() > 3 {
		t.Errorf("%d pages", p.heap.Pages())
	}
	for id := range uint64(2) {
		all := [][]byte{made(0, 120), made(1, 120)}
		for _, n := range []int{121, 200, 120, 1, 200, 199, 120} {
			p.tells(api.OK, call{do: put, id: id, b: made(n, n)})
			all[id] = made(n, n)
			p.has(all...)
		}
		p.tells(api.OK, call{do: put, id: id, b: made(int(id), 120)})
	}
}

// All records of a full page grow, one by one, in any order.
func TestPutOfGrowingRecords(t *testing.T) {
	d := dice(41)
	for range 100 {
		p := starting(t, puts(7, 1, 40, 3, 90, 12, 2, 33, 8, 5))
		for step := range 60 {
			id := d.next(10)
			n := min(200, len(p.plain.records[id])+1+d.next(70))
			p.tells(api.OK, call{do: put, id: uint64(id), b: made(step, n)})
		}
	}
}

// A record that lies alone in its page, behind places of others that are gone, may have no room there to grow.
func TestPutOfTheLastOfAPage(t *testing.T) {
	for n := range 201 {
		if n == 0 {
			continue
		}
		p := starting(t, many(49, 1))
		for id := range uint64(48) {
			p.ask(call{do: drop, id: id})
		}
		p.tells(api.OK, call{do: put, id: 48, b: made(7, n)})
		if b, e := p.heap.Get(48); !bytes.Equal(b, made(7, n)) || e != api.OK || p.heap.Len() != 1 || p.heap.Pages() > 2 {
			t.Errorf("%d bytes: %v %d, %d records, %d pages", n, b, e, p.heap.Len(), p.heap.Pages())
		}
	}
}

func TestRecordsOfTheSameBytes(t *testing.T) {
	for _, c := range []byte{0, 1, 0x80, 0xff} {
		p := starting(t)
		var all [][]byte
		for id, n := range []int{1, 20, 3, 20, 200, 200, 1, 120, 121} {
			all = append(all, bytes.Repeat([]byte{c}, n))
			p.tells(api.OK, call{do: put, id: uint64(id), b: all[id]})
		}
		p.has(all...)
	}
}
