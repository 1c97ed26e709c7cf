package heap_test

import (
	"bytes"
	"fmt"
	"slices"
	"testing"

	"quarantine/api"
	"quarantine/heap"
)

// made tells a record of n bytes, of all that a byte may be, and another for another seed.
func made(seed, n int) []byte {
	var b []byte
	for i := range n {
		b = append(b, byte(seed*37+i*i+i))
	}
	return b
}

// dice is a row of numbers that looks like chance, and is the same each time.
type dice uint32

func (d *dice) next(n int) int {
	*d = *d*1664525 + 1013904223
	return int(*d>>16) % n
}

func pick[T any](d *dice, l ...T) T { return l[d.next(len(l))] }

// edges tells numbers of which some are alike in a part of their bits.
func edges() []uint64 {
	return []uint64{0, 1, 2, 5, 1<<8 + 5, 1<<16 + 5, 1<<31 - 1, 1 << 31, 1<<31 + 5, 1<<32 - 1, 1 << 32, 1<<32 + 5, 1<<53 + 1, 1 << 53, 1<<63 - 1, 1 << 63, 1<<63 + 5, 1<<64 - 2, 1<<64 - 1}
}

// The calls that may change a heap.
const (
	put = iota
	drop
)

// call is one of them, with what is handed in.
type call struct {
	do int
	id uint64
	b  []byte
}

func (c call) String() string {
	if c.do == put {
		return fmt.Sprintf("Put(%d, %d bytes)", c.id, len(c.b))
	}
	return fmt.Sprintf("Drop(%d)", c.id)
}

func (c call) of(h interface {
	Put(id uint64, b []byte) api.Errno
	Drop(id uint64) api.Errno
}) api.Errno {
	if c.do == put {
		return h.Put(c.id, c.b)
	}
	return h.Drop(c.id)
}

// puts tells calls that put records of these lengths, of the numbers 0, 1 ..
func puts(lengths ...int) []call {
	var out []call
	for i, n := range lengths {
		out = append(out, call{do: put, id: uint64(i), b: made(i, n)})
	}
	return out
}

// many tells calls that put so many records of that length.
func many(count, length int) []call {
	return puts(slices.Repeat([]int{length}, count)...)
}

func drops(ids ...uint64) []call {
	var out []call
	for _, id := range ids {
		out = append(out, call{do: drop, id: id})
	}
	return out
}

// pair is a heap, and what the chapter says of it; each call is asked of both.
type pair struct {
	t     testing.TB
	heap  *heap.Heap
	plain plain
	did   []call
}

// starting tells a pair of which all those calls are asked.
func starting(t testing.TB, calls ...[]call) *pair {
	t.Helper()
	p := &pair{t: t, heap: heap.New()}
	for _, c := range slices.Concat(calls...) {
		p.ask(c)
	}
	return p
}

// ask holds what the heap tells of a call against what the chapter says; beside an error it has as many records and pages as before (R2).
func (p *pair) ask(c call) api.Errno {
	p.t.Helper()
	records, pages := p.heap.Len(), p.heap.Pages()
	p.did = append(p.did, c)
	got, want := c.of(p.heap), c.of(&p.plain)
	if got != want {
		p.t.Fatalf("%v tells %d, not %d", p.did, got, want)
	}
	if got != api.OK && (p.heap.Len() != records || p.heap.Pages() != pages) {
		p.t.Fatalf("%v tells %d, and has changed the heap", p.did, got)
	}
	return got
}

// tells asks a call for this error, and then looks.
func (p *pair) tells(want api.Errno, c call) {
	p.t.Helper()
	if e := p.ask(c); e != want {
		p.t.Errorf("%v tells %d, not %d", p.did, e, want)
	}
	p.look()
}

// look holds all that the heap tells against what the chapter says.
func (p *pair) look() {
	p.t.Helper()
	for range 2 { // to ask changes nothing
		if got := p.plain.against(p.heap); got != "" {
			p.t.Fatalf("%v: %s", p.did, got)
		}
	}
	if got := p.heap.Amiss(); got != "" {
		p.t.Fatalf("%v: %s", p.did, got)
	}
}

// has holds the heap to these records, of the numbers 0, 1 .. (nil: none).
func (p *pair) has(records ...[]byte) {
	p.t.Helper()
	p.look()
	count := 0
	for i, want := range records {
		b, e := p.heap.Get(uint64(i))
		if !bytes.Equal(b, want) || (e == api.OK) != (want != nil) {
			p.t.Errorf("%v: Get(%d): %v %d, not %v", p.did, i, b, e, want)
		}
		if want != nil {
			count++
		}
	}
	if p.heap.Len() != count {
		p.t.Errorf("%v: %d records, not %d", p.did, p.heap.Len(), count)
	}
}

// copied tells a pair of a copy.
func (p *pair) copied() *pair {
	return &pair{t: p.t, heap: p.heap.Copy(), plain: plain{ids: slices.Clone(p.plain.ids), records: slices.Clone(p.plain.records)}, did: slices.Clone(p.did)}
}

// somecall tells a call with lengths that are often at an edge, of a number that often has a record.
func somecall(d *dice, of *plain, step int) call {
	id := pick(d, uint64(d.next(12)), uint64(d.next(60)), uint64(d.next(60)), pick(d, edges()...))
	if len(of.ids) > 0 && d.next(2) == 0 {
		id = pick(d, of.ids...)
	}
	n := pick(d, 1+d.next(4), 1+d.next(30), 58, 118, 1+d.next(120), 200-d.next(3), 1+d.next(200), pick(d, 0, 201, 202, 1<<9))
	return call{do: pick(d, put, put, drop), id: id, b: made(step, n)}
}
