package heap_test

import (
	"bytes"
	"fmt"
	"slices"
	"testing"

	"quarantine/api"
	"quarantine/heap"
)

// plain is a second reading of the chapter: a rising list of numbers, and a list of their records.
type plain struct {
	ids     []uint64
	records [][]byte
}

// place tells at which place of the lists a number stands, or would stand.
func (p *plain) place(id uint64) (i int, is bool) {
	for i < len(p.ids) && p.ids[i] < id {
		i++
	}
	return i, i < len(p.ids) && p.ids[i] == id
}

func (p *plain) Put(id uint64, b []byte) api.Errno {
	if len(b) < 1 || len(b) > 200 {
		return api.ErrLong
	}
	i, is := p.place(id)
	if !is {
		p.ids = slices.Insert(p.ids, i, id)
		p.records = slices.Insert(p.records, i, nil)
	}
	p.records[i] = slices.Clone(b)
	return api.OK
}

func (p *plain) Get(id uint64) ([]byte, api.Errno) {
	if i, is := p.place(id); is {
		return p.records[i], api.OK
	}
	return nil, api.ErrNone
}

func (p *plain) Drop(id uint64) api.Errno {
	i, is := p.place(id)
	if !is {
		return api.ErrNone
	}
	p.ids = slices.Delete(p.ids, i, i+1)
	p.records = slices.Delete(p.records, i, i+1)
	return api.OK
}

// pages tells how few and how many pages the heap may have: of a page's 256 bytes 8 are its own, and each record needs 4 for its slot.
func (p *plain) pages() (least, most int) {
	if len(p.ids) == 0 {
		return 0, 0
	}
	need, alone := 0, 0
	for _, b := range p.records {
		need += 4 + len(b)
		if len(b) > 120 {
			alone++ // no two of these lie in one page
		}
	}
	return max((need+247)/248, alone), len(p.ids) + 1
}

// against tells what one tells otherwise; "": nothing.
func (p *plain) against(one *heap.Heap) string {
	if got := one.IDs(); !slices.Equal(got, p.ids) {
		return fmt.Sprintf("IDs: %v, not %v", got, p.ids)
	}
	if got := one.Len(); got != len(p.ids) {
		return fmt.Sprintf("Len: %d, not %d", got, len(p.ids))
	}
	if least, most := p.pages(); one.Pages() < least || one.Pages() > most {
		return fmt.Sprintf("Pages: %d, not %d to %d", one.Pages(), least, most)
	}
	look := edges()
	for _, id := range p.ids {
		look = append(look, id-1, id, id+1)
	}
	for _, id := range look {
		want, e := p.Get(id)
		if b, err := one.Get(id); !bytes.Equal(b, want) || err != e {
			return fmt.Sprintf("Get(%d): %v %d, not %v %d", id, b, err, want, e)
		}
	}
	return ""
}

// TestPlain: the second reading itself, held against what is worked out by hand.
func TestPlain(t *testing.T) {
	var p plain
	for _, id := range []uint64{5, 3, 1<<64 - 1, 0, 3} {
		p.Put(id, made(int(id%7), 100))
	}
	if least, most := p.pages(); !slices.Equal(p.ids, []uint64{0, 3, 5, 1<<64 - 1}) || least != 2 || most != 5 {
		t.Errorf("%v, %d to %d pages", p.ids, least, most)
	}
	for _, id := range []uint64{5, 0, 1<<64 - 1} {
		p.Drop(id)
	}
	if b, e := p.Get(3); !bytes.Equal(b, made(3, 100)) || e != api.OK || len(p.records) != 1 {
		t.Errorf("%v %d", b, e)
	}
	p.Drop(3)
	if least, most := p.pages(); least != 0 || most != 0 {
		t.Errorf("%d to %d pages", least, most)
	}
}

// P14.1: all runs of a few calls that meet in different ways

func TestAllShortRuns(t *testing.T) {
	calls := []call{
		{do: put, id: 0, b: made(1, 1)}, {do: put, id: 0, b: made(2, 120)}, {do: put, id: 0, b: made(3, 200)},
		{do: put, id: 1, b: made(4, 120)}, {do: put, id: 1, b: made(5, 121)}, {do: put, id: 2, b: made(6, 40)},
		{do: put, id: 1, b: nil}, {do: drop, id: 0}, {do: drop, id: 1}, {do: drop, id: 2},
	}
	told := map[api.Errno]int{}
	var run []call
	var grow func(left int)
	grow = func(left int) {
		p := starting(t, run)
		p.look()
		if left == 0 {
			return
		}
		for _, c := range calls {
			told[c.of(p.copied().heap)]++
			run = append(run, c)
			grow(left - 1)
			run = run[:len(run)-1]
		}
	}
	grow(4)
	for _, e := range []api.Errno{api.OK, api.ErrLong, api.ErrNone} {
		if told[e] < 100 {
			t.Errorf("%d is told but %d times", e, told[e])
		}
	}
}

// P14.1: long runs of calls

func TestGrownRuns(t *testing.T) {
	d := dice(14)
	told := map[int]map[api.Errno]int{put: {}, drop: {}}
	for range 40 {
		p := starting(t)
		for step := range 250 {
			c := somecall(&d, &p.plain, step)
			told[c.do][p.ask(c)]++
			p.look()
		}
	}
	for do, all := range [][]api.Errno{put: {api.OK, api.ErrLong}, drop: {api.OK, api.ErrNone}} {
		for _, e := range all {
			if told[do][e] < 200 {
				t.Errorf("call %d tells %d but %d times", do, e, told[do][e])
			}
		}
	}
}
