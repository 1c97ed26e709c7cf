package page_test

import (
	"bytes"
	"fmt"
	"slices"
	"testing"

	"quarantine/api"
	"quarantine/page"
)

// plain is a second reading of the chapter: a list of records, slot by slot, of which one without bytes is none.
type plain struct {
	records [][]byte
}

func (p *plain) free() int {
	free := 256 - 8
	for _, r := range p.records {
		free -= 4 + len(r)
	}
	return free
}

// with tells another one, with b in that slot.
func (p *plain) with(slot int, b []byte) plain {
	var out plain
	out.records = slices.Clone(p.records)
	if slot == len(out.records) {
		out.records = append(out.records, nil)
	}
	out.records[slot] = slices.Clone(b)
	for n := len(out.records); n > 0 && len(out.records[n-1]) == 0; n-- {
		out.records = out.records[:n-1]
	}
	return out
}

func (p *plain) have(slot int) bool {
	return slot >= 0 && slot < len(p.records) && len(p.records[slot]) > 0
}

func (p *plain) become(slot int, b []byte) api.Errno {
	if len(b) < 1 || len(b) > 200 {
		return api.ErrLong
	}
	next := p.with(slot, b)
	if next.free() < 0 {
		return api.ErrFull
	}
	*p = next
	return api.OK
}

func (p *plain) Put(b []byte) (int, api.Errno) {
	slot := slices.IndexFunc(p.records, func(r []byte) bool { return len(r) == 0 })
	if slot < 0 {
		slot = len(p.records)
	}
	if e := p.become(slot, b); e != api.OK {
		return 0, e
	}
	return slot, api.OK
}

func (p *plain) Set(slot int, b []byte) api.Errno {
	if !p.have(slot) {
		return api.ErrNone
	}
	return p.become(slot, b)
}

func (p *plain) Drop(slot int) api.Errno {
	if !p.have(slot) {
		return api.ErrNone
	}
	*p = p.with(slot, nil)
	return api.OK
}

// against tells what one tells otherwise; "": nothing.
func (p *plain) against(one *page.Page) string {
	var slots []int
	for slot, want := range p.records {
		e := api.OK
		if len(want) == 0 {
			e = api.ErrNone
		} else {
			slots = append(slots, slot)
		}
		if b, err := one.Get(slot); !bytes.Equal(b, want) || err != e {
			return fmt.Sprintf("Get(%d): %v %d, not %v %d", slot, b, err, want, e)
		}
	}
	if got := one.Slots(); !slices.Equal(got, slots) {
		return fmt.Sprintf("Slots: %v, not %v", got, slots)
	}
	if got := one.Free(); got != p.free() {
		return fmt.Sprintf("Free: %d, not %d", got, p.free())
	}
	for _, slot := range []int{-1, len(p.records)} {
		if b, e := one.Get(slot); len(b) != 0 || e != api.ErrNone {
			return fmt.Sprintf("Get(%d): %v %d", slot, b, e)
		}
	}
	return ""
}

// TestPlain: the second reading itself, held against numbers of the chapter that are worked out by hand.
func TestPlain(t *testing.T) {
	var p plain
	if p.free() != 248 {
		t.Errorf("a new one: %d", p.free())
	}
	p.Put(made(1, 10))
	if p.free() != 234 {
		t.Errorf("one of 10 bytes: %d", p.free())
	}
	p.Put(made(1, 1))
	p.Put(made(1, 1))
	p.Drop(1)
	if p.free() != 225 {
		t.Errorf("three slots: %d", p.free())
	}
	if p.Drop(2); p.free() != 234 || len(p.records) != 1 {
		t.Errorf("one slot: %d", p.free())
	}
}

// P13.1: all runs of a few calls that meet in different ways

func TestAllShortRuns(t *testing.T) {
	calls := []call{
		{do: put, b: made(1, 1)}, {do: put, b: made(2, 61)}, {do: put, b: made(3, 120)},
		{do: set, slot: 0, b: made(4, 2)}, {do: set, slot: 1, b: made(5, 123)},
		{do: drop, slot: 0}, {do: drop, slot: 1}, {do: drop, slot: 2},
	}
	told := map[api.Errno]int{}
	var run []call
	var grow func(left int)
	grow = func(left int) {
		p := starting(t, run)
		p.look()
		if left == 0 {
			return
		}
		for _, c := range calls {
			told[c.of(&plain{records: p.plain.records}).e]++
			run = append(run, c)
			grow(left - 1)
			run = run[:len(run)-1]
		}
	}
	grow(5)
	for _, e := range []api.Errno{api.OK, api.ErrFull, api.ErrNone} {
		if told[e] < 500 {
			t.Errorf("%d is told but %d times", e, told[e])
		}
	}
}

// somecall tells a call, with lengths and slots that often fit, and sometimes are at an edge.
func somecall(d *dice, of *plain, step int) call {
	many := len(of.records)
	slot := pick(d, d.next(many+1), d.next(many+1), d.next(many+1), -1, many, 50)
	n := pick(d, 1+d.next(4), 1+d.next(30), 1+d.next(120), 200-d.next(3), d.next(202), max(0, of.free()), max(0, of.free()-4), max(0, of.free()-3))
	if of.have(slot) && d.next(4) == 0 {
		n = max(0, of.free()) + len(of.records[slot]) + d.next(2)
	}
	return call{do: pick(d, put, put, set, drop), slot: slot, b: made(step, n)}
}

// P13.1: long runs of calls

func TestGrownRuns(t *testing.T) {
	d := dice(13)
	told := map[int]map[api.Errno]int{put: {}, set: {}, drop: {}}
	empty, brimful := 0, 0
	for range 300 {
		p := starting(t)
		for step := range 150 {
			c := somecall(&d, &p.plain, step)
			told[c.do][p.ask(c)]++
			p.look()
			if p.page.Free() == 0 {
				brimful++
			}
			if len(p.plain.records) == 0 {
				empty++
			}
		}
	}
	for _, x := range []struct {
		do  int
		all []api.Errno
	}{
		{put, []api.Errno{api.OK, api.ErrLong, api.ErrFull}},
		{set, []api.Errno{api.OK, api.ErrNone, api.ErrLong, api.ErrFull}},
		{drop, []api.Errno{api.OK, api.ErrNone}},
	} {
		for _, e := range x.all {
			if told[x.do][e] < 300 {
				t.Errorf("call %d tells %d but %d times", x.do, e, told[x.do][e])
			}
		}
	}
	if empty < 100 || brimful < 100 {
		t.Errorf("%d times without a record, %d times without room", empty, brimful)
	}
}
