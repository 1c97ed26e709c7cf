package btree_test

import (
	"bytes"
	"fmt"
	"slices"
	"testing"

	"quarantine/btree"
)

// dice is a row of numbers that looks like chance, and is the same each time.
type dice uint32

func (d *dice) next(n int) int {
	*d = *d*1664525 + 1013904223
	return int(*d>>16) % n
}

func pick[T any](d *dice, l ...T) T { return l[d.next(len(l))] }

// name tells the key of number k: keys stand as their numbers do.
func name(k int) []byte { return []byte(fmt.Sprintf("%04d", k)) }

// ahead tells a key that stands right ahead of that of number k, and behind that of k - 1.
func ahead(k int) []byte {
	if k == 0 {
		return []byte("000")
	}
	return append(name(k-1), '+')
}

// somekey tells a key that is often the beginning of another one, or stands at an edge of what bytes may be.
func somekey(d *dice) []byte {
	var key []byte
	for range pick(d, 0, 1, 2, 3, 3, 4, 4) {
		key = append(key, pick[byte](d, 0, 1, 'a', 254, 255))
	}
	return key
}

// edges tells keys at an edge, in their order.
func edges() [][]byte {
	return [][]byte{
		{}, {0}, {0, 0}, {0, 0, 0}, {0, 1}, {0, 255}, {1}, {1, 0}, {1, 255}, []byte("a"), []byte("a\x00"), []byte("a\x00b"), []byte("aa"), []byte("ab"),
		[]byte("b"), {127}, {127, 255}, {128}, {128, 0}, {254, 255, 255}, {255}, {255, 0}, {255, 254}, {255, 255}, {255, 255, 0}, {255, 255, 255},
	}
}

// orders tells the numbers from 0 to n - 1 in some orders: rising, falling, from both ends, and some that are mixed.
func orders(n int) [][]int {
	all := make([][]int, 6)
	d := dice(n)
	for k := range n {
		all[0] = append(all[0], k)
		all[1] = append(all[1], n-1-k)
		all[2] = append(all[2], []int{k / 2, n - 1 - k/2}[k%2])
	}
	all[3] = append(all[3], all[0]...)
	slices.SortStableFunc(all[3], func(a, b int) int { return a%7 - b%7 })
	for i := range all[4:] {
		all[4+i] = slices.Clone(all[0])
		for k := range n {
			other := d.next(n)
			all[4+i][k], all[4+i][other] = all[4+i][other], all[4+i][k]
		}
	}
	return all
}

// The calls that may change a tree.
const (
	put = iota
	drop
)

// call is one of them, with what is handed in.
type call struct {
	do  int
	key []byte
	val int
}

func (c call) String() string {
	if c.do == put {
		return fmt.Sprintf("Put(%q, %d)", c.key, c.val)
	}
	return fmt.Sprintf("Drop(%q)", c.key)
}

func (c call) of(x interface {
	Put(key []byte, v int) bool
	Drop(key []byte) bool
}) bool {
	if c.do == put {
		return x.Put(c.key, c.val)
	}
	return x.Drop(c.key)
}

// puts tells calls that put the keys of these numbers, each with its number as its value.
func puts(numbers ...int) []call {
	var out []call
	for _, k := range numbers {
		out = append(out, call{do: put, key: name(k), val: k})
	}
	return out
}

func drops(numbers ...int) []call {
	var out []call
	for _, k := range numbers {
		out = append(out, call{do: drop, key: name(k)})
	}
	return out
}

// pair is a tree, and what the chapter says of it; each call is asked of both.
type pair struct {
	t     testing.TB
	tree  *btree.Tree[int]
	plain plain
	did   []call
}

// starting tells a pair of which all those calls are asked.
func starting(t testing.TB, calls ...[]call) *pair {
	t.Helper()
	p := &pair{t: t, tree: btree.New[int]()}
	for _, c := range slices.Concat(calls...) {
		p.ask(c)
	}
	return p
}

// ask holds what the tree tells of a call against what the chapter says.
func (p *pair) ask(c call) bool {
	p.t.Helper()
	p.did = append(p.did, c)
	got, want := c.of(p.tree), c.of(&p.plain)
	if got != want {
		p.t.Fatalf("%v tells %v, not %v", p.did, got, want)
	}
	return got
}

// tells asks a call for this answer, and then looks.
func (p *pair) tells(want bool, c call) {
	p.t.Helper()
	if got := p.ask(c); got != want {
		p.t.Errorf("%v tells %v, not %v", p.did, got, want)
	}
	p.look()
}

// look holds the pairs that the tree has, and its levels, against what the chapter says.
func (p *pair) look() {
	p.t.Helper()
	for range 2 { // to ask changes nothing
		if got := p.plain.against(p.tree); got != "" {
			p.t.Fatalf("%v: %s", p.did, got)
		}
	}
	if got := p.tree.Amiss(); got != "" {
		p.t.Fatalf("%v: %s", p.did, got)
	}
}

// lookAround looks, and asks Get and Scan at and beside each key.
func (p *pair) lookAround() {
	p.t.Helper()
	p.look()
	keys := edges()
	for _, one := range p.plain.pairs {
		keys = append(keys, one.Key)
		keys = append(keys, beside(one.Key)...)
	}
	for _, key := range keys {
		if got := p.plain.at(p.tree, key); got != "" {
			p.t.Fatalf("%v: %s", p.did, got)
		}
	}
}

// beside tells keys that stand right ahead of a key or right behind it, or begin as it does.
func beside(key []byte) [][]byte {
	out := [][]byte{append(bytes.Clone(key), 0), append(bytes.Clone(key), 255)}
	if last := len(key) - 1; last >= 0 {
		for _, by := range []byte{255, 1} {
			other := bytes.Clone(key)
			other[last] += by
			out = append(out, other)
		}
		out = append(out, key[:last])
	}
	return out
}

// copied tells a pair of a copy.
func (p *pair) copied() *pair {
	return &pair{t: p.t, tree: p.tree.Copy(), plain: plain{slices.Clone(p.plain.pairs)}, did: slices.Clone(p.did)}
}

// somecall tells a call of a key that is often there.
func somecall(d *dice, of *plain, step int) call {
	key := somekey(d)
	if len(of.pairs) > 0 && d.next(3) == 0 {
		key = pick(d, of.pairs...).Key
	}
	return call{do: pick(d, put, put, drop), key: bytes.Clone(key), val: step}
}
