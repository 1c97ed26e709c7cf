package page_test

import (
	"slices"
	"testing"

	"quarantine/api"
)

// scattered tells a page without room, of ten records, of which those whose bits are set are dropped.
func scattered(t *testing.T, dropped int) *pair {
	p := starting(t, puts(20, 1, 33, 5, 40, 2, 17, 60, 10, 20))
	if p.page.Free() != 0 {
		t.Fatalf("%d free", p.page.Free())
	}
	for slot := range 10 {
		if dropped>>slot&1 == 1 {
			p.tells(api.OK, call{do: drop, slot: slot})
		}
	}
	return p
}

// brim tells how many bytes are left for a record of that slot.
func (p *pair) brim(slot int) int {
	free := p.plain.free()
	if p.plain.have(slot) {
		return free + len(p.plain.records[slot])
	}
	if slot == len(p.plain.records) {
		return free - 4
	}
	return free
}

// P13.1: room that is scattered between records is room

func TestPutIntoScatteredRoom(t *testing.T) {
	for dropped := 1; dropped < 1<<10; dropped++ {
		p := scattered(t, dropped)
		slot := slices.IndexFunc(p.plain.records, func(r []byte) bool { return r == nil })
		if slot < 0 {
			slot = len(p.plain.records)
		}
		n := p.brim(slot)
		if n < 200 {
			p.tells(api.ErrFull, call{do: put, b: made(3, n+1)})
		}
		p.tells(api.OK, call{do: put, b: made(3, min(n, 200))})
		p.look()
		if n <= 200 && p.page.Free() != 0 {
			t.Errorf("%v: %d free", p.did, p.page.Free())
		}
	}
}

func TestSetIntoScatteredRoom(t *testing.T) {
	for dropped := range 1 << 10 {
		for slot := range 10 {
			if dropped>>slot&1 == 1 {
				continue
			}
			p := scattered(t, dropped)
			n := p.brim(slot)
			if n < 200 {
				p.tells(api.ErrFull, call{do: set, slot: slot, b: made(3, n+1)})
			}
			p.tells(api.OK, call{do: set, slot: slot, b: made(3, min(n, 200))})
			p.look()
			if n <= 200 && p.page.Free() != 0 {
				t.Errorf("%v: %d free", p.did, p.page.Free())
			}
		}
	}
}

// Small records fill scattered room as well as a great one does.
func TestSmallPutsIntoScatteredRoom(t *testing.T) {
	for dropped := 1; dropped < 1<<10; dropped++ {
		p := scattered(t, dropped)
		for n := 1; p.ask(call{do: put, b: made(n, n)}) == api.OK; n = n%7 + 1 {
		}
		p.look()
		for p.ask(call{do: put, b: []byte{0}}) == api.OK {
		}
		p.look()
		if p.page.Free() > 4 {
			t.Errorf("%v: %d free", p.did, p.page.Free())
		}
	}
}

// A slot more may need room where a record lies, while there is room elsewhere.
func TestASlotWhereARecordLies(t *testing.T) {
	p := starting(t, puts(100, 136, 1), drops(2))
	p.tells(api.OK, call{do: set, slot: 0, b: made(4, 90)})
	p.has(14, made(4, 90), made(1, 136))
	p.tells(api.OK, call{do: put, b: made(5, 10)})
	p.has(0, made(4, 90), made(1, 136), made(5, 10))
	for first := 1; first <= 100; first++ {
		p := starting(t, puts(first, 100, 136-first), drops(0))
		p.tells(api.OK, call{do: put, b: []byte{1}})
		for p.ask(call{do: put, b: []byte{2}}) == api.OK {
			p.look()
		}
		if p.page.Free() > 4 {
			t.Errorf("%v: %d free", p.did, p.page.Free())
		}
	}
}
