package page_test

import (
	"bytes"
	"slices"
	"testing"

	"quarantine/api"
	"quarantine/page"
)

// P13.1: the chapter's examples

func TestExamples(t *testing.T) {
	p := page.New()
	if p.Free() != 248 {
		t.Errorf("Free of a new one: %d", p.Free())
	}
	if slot, e := p.Put([]byte("0123456789")); slot != 0 || e != api.OK || p.Free() != 234 {
		t.Errorf("Put of 10 bytes: %d %d, Free %d", slot, e, p.Free())
	}
}

// P13.1 Put: the lowest slot without a record

func TestPutTakesTheLowestSlot(t *testing.T) {
	p := page.New()
	takes := func(want int) {
		t.Helper()
		if slot, e := p.Put([]byte("ab")); slot != want || e != api.OK {
			t.Errorf("Put: %d %d, not %d", slot, e, want)
		}
	}
	for slot := range 8 {
		takes(slot)
	}
	for _, slot := range []int{5, 0, 3, 2} {
		if e := p.Drop(slot); e != api.OK {
			t.Errorf("Drop(%d): %d", slot, e)
		}
	}
	for _, slot := range []int{0, 2, 3, 5, 8} {
		takes(slot)
	}
	p.Drop(8)
	takes(8)
	p.Drop(4)
	p.Drop(8)
	p.Drop(7)
	takes(4)
	takes(7)
	if got := p.Slots(); !slices.Equal(got, []int{0, 1, 2, 3, 4, 5, 6, 7}) {
		t.Errorf("Slots: %v", got)
	}
}

// P13.1 Put: which lengths a record may have

func TestPutOfEachLength(t *testing.T) {
	for n := range 700 {
		p := starting(t)
		want := api.OK
		if n < 1 || n > 200 {
			want = api.ErrLong
		}
		p.tells(want, call{do: put, b: made(n, n)})
		if want == api.OK {
			p.has(244-n, made(n, n))
		} else {
			p.has(248)
		}
	}
	for _, n := range []int{1 << 8, 1 << 16, 1<<16 + 1, 1<<16 + 200, 1 << 20} {
		p := starting(t)
		p.tells(api.ErrLong, call{do: put, b: make([]byte, n)})
		p.has(248)
	}
}

func TestRecordsOfTheSameBytes(t *testing.T) {
	for _, c := range []byte{0, 1, 0x80, 0xff} {
		var all [][]byte
		p := starting(t)
		for _, n := range []int{1, 20, 3, 20} {
			b := bytes.Repeat([]byte{c}, n)
			p.tells(api.OK, call{do: put, b: b})
			all = append(all, b)
		}
		p.has(188, all...)
	}
}

// P13.1 Put: a page that is filled to its last byte, and one byte more

func TestPutToTheLastByte(t *testing.T) {
	for first := 41; first <= 200; first++ {
		left := 240 - first
		p := starting(t, puts(first))
		p.tells(api.ErrFull, call{do: put, b: made(9, left+1)})
		p.has(left+4, made(0, first))
		p.tells(api.OK, call{do: put, b: made(9, left)})
		p.has(0, made(0, first), made(9, left))
		for _, n := range []int{1, 2, 200} {
			p.tells(api.ErrFull, call{do: put, b: made(8, n)})
		}
		p.has(0, made(0, first), made(9, left))
	}
}

// A slot that is not there yet needs its 4 bytes, too.
func TestPutNeedsASlot(t *testing.T) {
	for free := range 8 {
		p := starting(t, puts(200, 40-free))
		want := api.ErrFull
		if free >= 5 {
			want = api.OK
		}
		p.tells(want, call{do: put, b: []byte{7}})
		if want == api.OK {
			p.has(free-5, made(0, 200), made(1, 40-free), []byte{7})
		} else {
			p.has(free, made(0, 200), made(1, 40-free))
		}
	}
}

// A slot that is there needs none.
func TestPutBetweenNeedsNoSlot(t *testing.T) {
	for n := 1; n < 36; n++ {
		p := starting(t, puts(n, 200, 36-n), drops(0))
		p.tells(api.ErrFull, call{do: put, b: made(7, n+1)})
		p.has(n, nil, made(1, 200), made(2, 36-n))
		p.tells(api.OK, call{do: put, b: made(7, n)})
		p.has(0, made(7, n), made(1, 200), made(2, 36-n))
	}
}

// As many records as a page may have.
func TestPutOfSmallRecords(t *testing.T) {
	p := starting(t)
	var all [][]byte
	for slot := range 49 {
		p.tells(api.OK, call{do: put, b: made(slot, 1)})
		all = append(all, made(slot, 1))
		p.has(248-5*(slot+1), all...)
	}
	p.tells(api.ErrFull, call{do: put, b: made(1, 1)})
	p.tells(api.OK, call{do: set, slot: 20, b: made(3, 4)})
	all[20] = made(3, 4)
	p.has(0, all...)
	for slot := range 48 {
		p.tells(api.OK, call{do: drop, slot: slot})
		all[slot] = nil
	}
	p.has(51, all...)
	p.tells(api.ErrFull, call{do: put, b: made(2, 52)})
	p.tells(api.OK, call{do: put, b: made(2, 51)})
	all[0] = made(2, 51)
	p.has(0, all...)
}

// P13.1 Put: ErrLong is told ahead of ErrFull

func TestPutTellsErrLongFirst(t *testing.T) {
	for _, p := range []*pair{starting(t, puts(200, 40)), starting(t, puts(200, 38)), starting(t, puts(40, 199))} {
		was := p.page.Free()
		for _, n := range []int{0, 201, 202, 256, 1 << 16} {
			p.tells(api.ErrLong, call{do: put, b: make([]byte, n)})
		}
		p.tells(api.ErrFull, call{do: put, b: make([]byte, 200)})
		p.look()
		if p.page.Free() != was {
			t.Errorf("Free is %d, and was %d", p.page.Free(), was)
		}
	}
}
