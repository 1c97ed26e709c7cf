package btree_test

import (
	"bytes"
	"fmt"
	"math"
	"slices"
	"testing"

	"quarantine/btree"
)

// plain is a second reading of the chapter: a list of pairs that rises.
type plain struct {
	pairs []btree.Pair[int]
}

// below tells whether a stands ahead of b: byte by byte, a beginning ahead of what is longer.
func below(a, b []byte) bool {
	for i := range a {
		if i == len(b) || a[i] > b[i] {
			return false
		}
		if a[i] < b[i] {
			return true
		}
	}
	return len(a) < len(b)
}

// place tells at which place of the list a key stands, or would stand.
func (p *plain) place(key []byte) (i int, is bool) {
	for i < len(p.pairs) && below(p.pairs[i].Key, key) {
		i++
	}
	return i, i < len(p.pairs) && !below(key, p.pairs[i].Key)
}

func (p *plain) Put(key []byte, v int) bool {
	i, is := p.place(key)
	if !is {
		p.pairs = slices.Insert(p.pairs, i, btree.Pair[int]{Key: bytes.Clone(key)})
	}
	p.pairs[i].Val = v
	return is
}

func (p *plain) Get(key []byte) (int, bool) {
	if i, is := p.place(key); is {
		return p.pairs[i].Val, true
	}
	return 0, false
}

func (p *plain) Drop(key []byte) bool {
	i, is := p.place(key)
	if is {
		p.pairs = slices.Delete(p.pairs, i, i+1)
	}
	return is
}

func (p *plain) Scan(from []byte, most int) []btree.Pair[int] {
	i, _ := p.place(from)
	return p.pairs[i:][:max(0, min(most, len(p.pairs)-i))]
}

// same tells whether two lists of pairs are one.
func same(a, b []btree.Pair[int]) bool {
	return slices.EqualFunc(a, b, func(a, b btree.Pair[int]) bool { return bytes.Equal(a.Key, b.Key) && a.Val == b.Val })
}

// shape tells what is wrong with the levels of a tree of so many keys; "": nothing.
func shape(levels [][]int, keys int) string {
	if keys == 0 || len(levels) == 0 {
		if keys+len(levels) != 0 {
			return fmt.Sprintf("%d levels of %d keys", len(levels), keys)
		}
		return ""
	}
	nodes, least := 1, 1
	for _, sizes := range levels {
		if len(sizes) != nodes {
			return fmt.Sprintf("a level of %d nodes, not %d", len(sizes), nodes)
		}
		nodes = 0
		for _, many := range sizes {
			if many < least || many > 6 {
				return fmt.Sprintf("a node of %d keys", many)
			}
			nodes += many + 1
		}
		least = 3
	}
	leaves := len(levels[len(levels)-1])
	if stand := nodes - leaves; stand != keys {
		return fmt.Sprintf("%d keys in the leaves, not %d", stand, keys)
	}
	if leaves > keys/3+1 {
		return fmt.Sprintf("%d leaves of %d keys", leaves, keys)
	}
	return ""
}

// against tells what one tells otherwise; "": nothing.
func (p *plain) against(one *btree.Tree[int]) string {
	if got := one.Len(); got != len(p.pairs) {
		return fmt.Sprintf("Len: %d, not %d", got, len(p.pairs))
	}
	if got := one.Scan(nil, math.MaxInt); !same(got, p.pairs) {
		return fmt.Sprintf("Scan: %v, not %v", got, p.pairs)
	}
	if got := shape(one.Levels(), len(p.pairs)); got != "" {
		return fmt.Sprintf("Levels: %v: %s", one.Levels(), got)
	}
	return ""
}

// at tells what one tells otherwise of one key, and from it on; "": nothing.
func (p *plain) at(one *btree.Tree[int], key []byte) string {
	want, is := p.Get(key)
	if v, was := one.Get(key); v != want || was != is {
		return fmt.Sprintf("Get(%q): %d %v, not %d %v", key, v, was, want, is)
	}
	for _, most := range []int{-1, 0, 1, 2, 7, len(p.pairs)} {
		if got := one.Scan(key, most); !same(got, p.Scan(key, most)) {
			return fmt.Sprintf("Scan(%q, %d): %v, not %v", key, most, got, p.Scan(key, most))
		}
	}
	return ""
}

// TestPlain: the second reading itself, held against what is worked out by hand.
func TestPlain(t *testing.T) {
	var p plain
	for i, key := range []string{"b", "", "a\xff", "a", "b\x00", "a", "\xff"} {
		if was := p.Put([]byte(key), i); was != (i == 5) {
			t.Errorf("Put of %q: %v", key, was)
		}
	}
	var keys []string
	for _, one := range p.pairs {
		keys = append(keys, string(one.Key))
	}
	if !slices.Equal(keys, []string{"", "a", "a\xff", "b", "b\x00", "\xff"}) {
		t.Errorf("%q", keys)
	}
	if v, is := p.Get([]byte("a")); v != 5 || !is {
		t.Errorf("%d %v", v, is)
	}
	if l := p.Scan([]byte("a\x00"), 2); len(l) != 2 || l[0].Val != 2 || l[1].Val != 0 {
		t.Errorf("%v", l)
	}
	if !p.Drop(nil) || p.Drop(nil) || len(p.pairs) != 5 {
		t.Errorf("%v", p.pairs)
	}
	for want, levels := range map[string][][][]int{
		"":    {{{6}}, {{1}, {3, 3}}, {{1}, {6, 5}}, {{1}, {3, 3}, {3, 4, 5, 6, 3, 3, 3, 3}}},
		"bad": {{{7}}, {{0}}, {{6, 1}}, {{}, {3, 3}}, {{1}, {2, 4}}, {{1}, {3, 3, 3}}, {{1}, {3, 3}, {3, 3, 3, 3, 3, 3, 3}}, {{1}, {2, 3}, {3, 3, 3, 3, 3, 3, 3}}, {{2}, {3, 3}}},
	} {
		for _, l := range levels {
			sum := 0
			for _, many := range l[len(l)-1] {
				sum += many
			}
			if got := shape(l, sum); (got == "") != (want == "") || shape(l, sum+1) == "" {
				t.Errorf("%v: %q", l, got)
			}
		}
	}
	if shape(nil, 0) != "" || shape([][]int{}, 1) == "" || shape([][]int{{}}, 0) == "" {
		t.Error("no levels")
	}
}

// P15.1, P15.2: each thing that may be done to trees of each count of keys, grown in each order

func TestEachCallOfEachTree(t *testing.T) {
	for n := range 45 {
		for _, order := range orders(n) {
			p := starting(t, puts(order...))
			p.look()
			for k := range n + 1 {
				p.copied().tells(false, call{do: put, key: ahead(k), val: 1000})
				p.copied().tells(false, call{do: drop, key: ahead(k)})
			}
			for k := range n {
				p.copied().tells(true, call{do: put, key: name(k), val: 1000})
				one := p.copied()
				one.tells(true, call{do: drop, key: name(k)})
				one.tells(false, call{do: drop, key: name(k)})
				one.tells(false, call{do: put, key: name(k), val: 1000})
			}
			p.look()
		}
	}
}

// P15.1, P15.2: long runs of calls

func TestGrownRuns(t *testing.T) {
	d := dice(15)
	told := map[int]map[bool]int{put: {}, drop: {}}
	for range 40 {
		p := starting(t)
		for step := range 500 {
			c := somecall(&d, &p.plain, step)
			told[c.do][p.ask(c)]++
			p.look()
			if step%50 == 0 {
				p.lookAround()
			}
		}
	}
	for do, of := range told {
		for _, was := range []bool{true, false} {
			if of[was] < 500 {
				t.Errorf("call %d tells %v but %d times", do, was, of[was])
			}
		}
	}
}
