package page_test

import (
	"bytes"
	"slices"
	"testing"

	"quarantine/api"
	"quarantine/page"
)

// withRoom tells a copy of b with spare room, and something in it.
func withRoom(b []byte) []byte {
	return slices.Concat(b, made(77, 300))[:len(b)]
}

// inside tells all of l, with its spare room.
func inside[T any](l []T) []T { return l[:cap(l)] }

// spoil makes all of l another, its spare room too.
func spoil[T byte | int](l []T) {
	l = inside(l)
	for i := range l {
		l[i] += 101
	}
}

// R3: what is handed in stays as it was, spare room too; what stands in the spare room says nothing; nothing of it is kept

func TestWhatIsHandedInStays(t *testing.T) {
	d := dice(21)
	for range 200 {
		p := starting(t)
		for step := range 100 {
			c := somecall(&d, &p.plain, step)
			c.b = withRoom(c.b)
			was := slices.Clone(inside(c.b))
			p.ask(c)
			if !bytes.Equal(inside(c.b), was) {
				t.Fatalf("%v changes what is handed in", p.did)
			}
			spoil(c.b)
			p.look()
		}
	}
}

// R3: what is told is new memory, spare room too

func TestWhatIsToldIsNewMemory(t *testing.T) {
	d := dice(22)
	for range 100 {
		p := starting(t)
		for step := range 100 {
			p.ask(somecall(&d, &p.plain, step))
			all, slots := p.page.Bytes(), p.page.Slots()
			elder, others := slices.Clone(all), slices.Clone(slots)
			for _, slot := range others {
				b, _ := p.page.Get(slot)
				again, _ := p.page.Get(slot)
				spoil(b)
				if !bytes.Equal(again, p.plain.records[slot]) {
					t.Fatalf("%v: two of Get(%d) share memory", p.did, slot)
				}
			}
			spoil(p.page.Bytes())
			spoil(p.page.Slots())
			if !bytes.Equal(all, elder) || !slices.Equal(slots, others) {
				t.Fatalf("%v: two answers share memory", p.did)
			}
			spoil(all)
			spoil(slots)
			p.look()
			if !bytes.Equal(p.page.Bytes(), elder) {
				t.Fatalf("%v: an answer is the page's memory", p.did)
			}
		}
	}
}

// What was told stays as it was, whatever is done to the page.
func TestWhatWasToldStays(t *testing.T) {
	p := page.New()
	p.Put([]byte("first"))
	p.Put([]byte("second"))
	b, _ := p.Get(0)
	all, slots := p.Bytes(), p.Slots()
	was := slices.Clone(all)
	p.Set(0, []byte("other"))
	p.Drop(1)
	p.Put(made(1, 200))
	p.Drop(0)
	if string(b) != "first" || !bytes.Equal(all, was) || !slices.Equal(slots, []int{0, 1}) {
		t.Errorf("became %q, %v, %v", b, all, slots)
	}
}

// R4: a call hangs on what was done to its page alone: of two that had the same calls both tell the same, their bytes too

func TestTheSameEachTime(t *testing.T) {
	d := dice(23)
	for range 50 {
		one, other := starting(t), starting(t)
		for step := range 100 {
			one.ask(somecall(&d, &one.plain, step))
			other.ask(somecall(&d, &other.plain, step))
		}
		for _, p := range []*pair{one, other} {
			p.look()
			if again := starting(t, p.did); !bytes.Equal(again.page.Bytes(), p.page.Bytes()) {
				t.Fatalf("%v: %v, and then %v", p.did, p.page.Bytes(), again.page.Bytes())
			}
		}
	}
}

// What was dropped is in the page's bytes no more, wherever records were pushed to.
func TestNothingIsLeftOfWhatWasDropped(t *testing.T) {
	fresh := page.New().Bytes()
	d := dice(24)
	for range 200 {
		p := starting(t)
		for step := range 60 {
			p.ask(somecall(&d, &p.plain, step))
		}
		for _, slot := range p.page.Slots() {
			p.tells(api.OK, call{do: drop, slot: slot})
		}
		if !bytes.Equal(p.page.Bytes(), fresh) {
			t.Fatalf("%v: %v", p.did, p.page.Bytes())
		}
	}
}

// P13.1 Bytes: pages with other records have other bytes

func TestBytesOfOthers(t *testing.T) {
	seen := map[string]string{}
	d := dice(25)
	for range 200 {
		p := starting(t)
		for step := range 30 {
			p.ask(somecall(&d, &p.plain, step))
			records := string(bytes.Join(p.plain.records, []byte("|")))
			if was, ok := seen[string(p.page.Bytes())]; ok && was != records {
				t.Fatalf("%q and %q have the same bytes", was, records)
			}
			seen[string(p.page.Bytes())] = records
		}
	}
}
