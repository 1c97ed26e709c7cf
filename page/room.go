package page

import "quarantine/api"

// The records lie at the page's end, each put right ahead of the lowest; what is dropped leaves a hole between them.

// maxRecord is how many bytes a record may have.
const maxRecord = 200

// record tells the bytes of the slot's record, where they lie.
func (p *Page) record(slot int) []byte {
	at := p.offset(slot)
	return p.bytes[at : at+p.length(slot)]
}

// lowest tells at which byte the records begin.
func (p *Page) lowest() int {
	at := api.PageLen
	for slot := range p.many() {
		if p.has(slot) {
			at = min(at, p.offset(slot))
		}
	}
	return at
}

// lay makes b the record of that slot, which may be the first that is not there, or tells why not.
func (p *Page) lay(slot int, b []byte) api.Errno {
	if len(b) == 0 || len(b) > maxRecord {
		return api.ErrLong
	}
	// Asked ahead of any change: a page that has no room for b stays as it is, byte by byte.
	if !p.fits(slot, len(b)) {
		return api.ErrFull
	}
	if p.has(slot) {
		p.wipe(slot)
	}
	many := max(p.many(), slot+1)
	if p.lowest()-len(b) < slotAt(many) {
		p.pack()
	}
	at := p.lowest() - len(b)
	copy(p.bytes[at:], b)
	p.setMany(many)
	p.setSlot(slot, at, len(b))
	return api.OK
}

// fits tells whether the slot's record may have n bytes.
func (p *Page) fits(slot, n int) bool {
	room := p.Free()
	switch {
	case p.has(slot):
		room += p.length(slot)
	case slot >= p.many():
		room -= slotLen
	}
	return n <= room
}

// wipe takes the slot's record, and leaves the slot.
func (p *Page) wipe(slot int) {
	// Whoever reads the page's bytes must not find there what was dropped.
	clear(p.record(slot))
	p.setSlot(slot, 0, 0)
}

// pack pushes the records together at the page's end, so that all that is free lies in one piece.
func (p *Page) pack() {
	old := *p
	clear(p.bytes[slotAt(p.many()):])
	at := api.PageLen
	for _, slot := range old.Slots() {
		b := old.record(slot)
		at -= len(b)
		copy(p.bytes[at:], b)
		p.setSlot(slot, at, len(b))
	}
}
