package page_test

import (
	"bytes"
	"fmt"
	"math"
	"slices"
	"testing"

	"quarantine/api"
	"quarantine/page"
)

// made tells a record of n bytes, of all that a byte may be, and another for another seed.
func made(seed, n int) []byte {
	var b []byte
	for i := range n {
		b = append(b, byte(seed*37+i*i+i))
	}
	return b
}

// dice is a row of numbers that looks like chance, and is the same each time.
type dice uint32

func (d *dice) next(n int) int {
	*d = *d*1664525 + 1013904223
	return int(*d>>16) % n
}

func pick[T any](d *dice, l ...T) T { return l[d.next(len(l))] }

// The calls that may change a page.
const (
	put = iota
	set
	drop
)

// call is one of them, with what is handed in.
type call struct {
	do, slot int
	b        []byte
}

func (c call) String() string {
	switch c.do {
	case put:
		return fmt.Sprintf("Put(%d bytes)", len(c.b))
	case set:
		return fmt.Sprintf("Set(%d, %d bytes)", c.slot, len(c.b))
	}
	return fmt.Sprintf("Drop(%d)", c.slot)
}

// answer is what a call tells: Put's slot, and the error.
type answer struct {
	slot int
	e    api.Errno
}

func (c call) of(p interface {
	Put(b []byte) (int, api.Errno)
	Set(slot int, b []byte) api.Errno
	Drop(slot int) api.Errno
}) (a answer) {
	switch c.do {
	case put:
		a.slot, a.e = p.Put(c.b)
	case set:
		a.e = p.Set(c.slot, c.b)
	case drop:
		a.e = p.Drop(c.slot)
	}
	return a
}

func puts(lengths ...int) []call {
	var out []call
	for i, n := range lengths {
		out = append(out, call{do: put, b: made(i, n)})
	}
	return out
}

func drops(slots ...int) []call {
	var out []call
	for _, slot := range slots {
		out = append(out, call{do: drop, slot: slot})
	}
	return out
}

// pair is a page, and what the chapter says of it; each call is asked of both.
type pair struct {
	t     testing.TB
	page  *page.Page
	plain plain
	did   []call
}

// starting tells a pair of which all those calls are asked.
func starting(t testing.TB, calls ...[]call) *pair {
	t.Helper()
	p := &pair{t: t, page: page.New()}
	for _, c := range slices.Concat(calls...) {
		p.ask(c)
	}
	return p
}

// ask holds what the page tells of a call, and a page that is left as it is beside an error (R2), against what the chapter says.
func (p *pair) ask(c call) api.Errno {
	p.t.Helper()
	was := p.page.Bytes()
	p.did = append(p.did, c)
	got, want := c.of(p.page), c.of(&p.plain)
	if got != want {
		p.t.Fatalf("%v tells %+v, not %+v", p.did, got, want)
	}
	if got.e != api.OK && !bytes.Equal(p.page.Bytes(), was) {
		p.t.Fatalf("%v tells %d, and has changed the page", p.did, got.e)
	}
	return got.e
}

// tells asks a call for this error.
func (p *pair) tells(want api.Errno, c call) {
	p.t.Helper()
	if e := p.ask(c); e != want {
		p.t.Errorf("%v tells %d, not %d", p.did, e, want)
	}
}

// look holds all that the page tells, and all that is told by the page that its bytes are, against what the chapter says.
func (p *pair) look() {
	p.t.Helper()
	b := p.page.Bytes()
	if len(b) != 256 {
		p.t.Fatalf("%v: %d bytes", p.did, len(b))
	}
	for name, one := range map[string]*page.Page{"the page": p.page, "the page of its bytes": page.Read(b)} {
		if got := p.plain.against(one); got != "" {
			p.t.Fatalf("%v: %s: %s", p.did, name, got)
		}
	}
	if !bytes.Equal(p.page.Bytes(), b) {
		p.t.Fatalf("%v: to ask has changed the page", p.did)
	}
}

// has holds the page to these records, slot by slot (nil: none), and to so much that is free.
func (p *pair) has(free int, records ...[]byte) {
	p.t.Helper()
	p.look()
	if !slices.EqualFunc(p.plain.records, records, bytes.Equal) || p.page.Free() != free {
		p.t.Errorf("%v: %d free, and of %d slots %v have a record", p.did, p.page.Free(), len(p.plain.records), p.page.Slots())
	}
}

// noSlots tells numbers that are no slot of a page with so many slots.
func noSlots(many int) []int {
	return []int{-1, -2, -4, -256, -1 << 16, math.MinInt, math.MinInt + 1, many, many + 1, 62, 63, 64, 256, 1 << 14, 1 << 16, 1<<32 - 1, 1 << 32, 1 << 62, math.MaxInt - 1, math.MaxInt}
}
