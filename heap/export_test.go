package heap

import (
	"slices"
	"strconv"
)

// Amiss tells what is not right within a heap; "": nothing.
// Each place is of a slot with a record, and no two are of one; no page is without; those that are free are listed, once each, rising.
func (h *Heap) Amiss() string {
	lie := map[place]uint64{}
	for id, at := range h.places {
		if _, is := lie[at]; is {
			return "two records in one place"
		}
		lie[at] = id
	}
	var free []gap
	records := 0
	for number, p := range h.pages {
		slots := p.Slots()
		if len(slots) == 0 {
			return "page " + strconv.Itoa(number) + " has no record"
		}
		for _, slot := range slots {
			if _, is := lie[place{page: number, slot: slot}]; !is {
				return "a record of no number"
			}
		}
		records += len(slots)
		if g := gapOf(number, p); g.room > 0 {
			free = append(free, g)
		}
	}
	slices.SortFunc(free, compare)
	switch {
	case records != len(h.places):
		return "a number whose record is in no page"
	case !slices.Equal(free, h.free):
		return "other pages are listed than are free"
	}
	return ""
}
