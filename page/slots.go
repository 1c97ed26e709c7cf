package page

// A page begins with its head, of which the first word tells how many slots there are, and the rest is spare.
// Behind it stand the slots, of two words each: at which byte the record begins, and how many it has; none: no record.
// The last slot always has a record.
const (
	headLen = 8
	slotLen = 4
	wordLen = 2
)

// slotAt tells at which byte that slot stands.
func slotAt(slot int) int { return headLen + slot*slotLen }

// word tells the whole number of two bytes, the greater first.
func (p *Page) word(at int) int {
	return int(p.bytes[at])<<8 | int(p.bytes[at+1])
}

func (p *Page) setWord(at, n int) {
	p.bytes[at], p.bytes[at+1] = byte(n>>8), byte(n)
}

// many tells how many slots there are.
func (p *Page) many() int { return p.word(0) }

func (p *Page) setMany(n int) { p.setWord(0, n) }

// offset tells at which byte the slot's record begins.
func (p *Page) offset(slot int) int { return p.word(slotAt(slot)) }

// length tells how many bytes the slot's record has.
func (p *Page) length(slot int) int { return p.word(slotAt(slot) + wordLen) }

func (p *Page) setSlot(slot, offset, length int) {
	p.setWord(slotAt(slot), offset)
	p.setWord(slotAt(slot)+wordLen, length)
}

// has tells whether there is such a slot, with a record.
func (p *Page) has(slot int) bool {
	return 0 <= slot && slot < p.many() && p.length(slot) > 0
}

// vacant tells the lowest slot without a record; it may be one that is not there yet.
func (p *Page) vacant() int {
	slot := 0
	for p.has(slot) {
		slot++
	}
	return slot
}

// trim takes the slots at the end that have no record.
func (p *Page) trim() {
	many := p.many()
	for many > 0 && !p.has(many-1) {
		many--
	}
	p.setMany(many)
}
