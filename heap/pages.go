package heap

import (
	"cmp"
	"slices"

	"quarantine/page"
)

// slotLen is how many bytes of a page one slot more needs.
const slotLen = 4

// gap is a page that is free: how long a record it has room for.
// Gaps stand by their room, so that the least one that is enough is found at once.
type gap struct{ room, page int }

func compare(a, b gap) int {
	return cmp.Or(cmp.Compare(a.room, b.room), cmp.Compare(a.page, b.page))
}

// gapOf tells the gap that a page has; of no room, if it is full.
func gapOf(number int, p *page.Page) gap {
	slots, room := p.Slots(), p.Free()
	if many := len(slots); many == 0 || slots[many-1] == many-1 {
		// Each slot has a record, so that another one needs one more.
		room -= slotLen
	}
	return gap{room: max(room, 0), page: number}
}

// lay puts b, which may be a record, into a page that has room for it, as the record of that number.
func (h *Heap) lay(id uint64, b []byte) {
	at := place{page: h.roomy(len(b))}
	h.change(at.page, func(p *page.Page) { at.slot, _ = p.Put(b) })
	if h.places == nil {
		h.places = map[uint64]place{}
	}
	h.places[id] = at
}

// drop takes the record at that place out of its page.
func (h *Heap) drop(at place) {
	h.change(at.page, func(p *page.Page) { p.Drop(at.slot) })
}

// roomy tells the number of a page with room for n bytes; a new one, if there is none.
func (h *Heap) roomy(n int) int {
	if i, _ := slices.BinarySearchFunc(h.free, gap{room: n}, compare); i < len(h.free) {
		return h.free[i].page
	}
	number := h.next
	h.next++
	h.keep(number, page.New())
	return number
}

// keep makes p the page of that number.
func (h *Heap) keep(number int, p *page.Page) {
	if h.pages == nil {
		h.pages = map[int]*page.Page{}
	}
	h.pages[number] = p
}

// change does something to a page, and sees to it that the free ones are listed, and none is kept without records.
func (h *Heap) change(number int, do func(p *page.Page)) {
	p := h.pages[number]
	h.unlist(gapOf(number, p))
	do(p)
	if len(p.Slots()) == 0 {
		delete(h.pages, number)
		return
	}
	h.list(gapOf(number, p))
}

// list puts a gap into the list of those that are free.
func (h *Heap) list(g gap) {
	if g.room > 0 {
		i, _ := slices.BinarySearchFunc(h.free, g, compare)
		h.free = slices.Insert(h.free, i, g)
	}
}

// unlist takes a gap out of that list, if it is there.
func (h *Heap) unlist(g gap) {
	if i, is := slices.BinarySearchFunc(h.free, g, compare); is {
		h.free = slices.Delete(h.free, i, i+1)
	}
}
