package btree_test

import (
	"bytes"
	"math"
	"slices"
	"testing"

	"quarantine/btree"
)

// withRoom tells a copy of b with spare room, and something in it.
func withRoom(b []byte) []byte {
	return slices.Concat(b, []byte("spare\x00\xffroom"))[:len(b)]
}

// inside tells all of l, with its spare room.
func inside[T any](l []T) []T { return l[:cap(l)] }

// spoil makes all of l another, its spare room too.
func spoil[T byte | int](l []T) {
	l = inside(l)
	for i := range l {
		l[i] += 101
	}
}

// spoilPairs makes all of l another, the keys too.
func spoilPairs(l []btree.Pair[int]) {
	for i, one := range inside(l) {
		spoil(one.Key)
		inside(l)[i] = btree.Pair[int]{Key: []byte("spoilt"), Val: -1}
	}
}

// R3: what is handed in stays as it was, spare room too; what stands in the spare room says nothing; nothing of it is kept

func TestWhatIsHandedInStays(t *testing.T) {
	d := dice(21)
	for range 20 {
		p := starting(t)
		for step := range 300 {
			c := somecall(&d, &p.plain, step)
			key := withRoom(c.key)
			was := slices.Clone(inside(key))
			stays := func(what string) {
				t.Helper()
				if !bytes.Equal(inside(key), was) {
					t.Fatalf("%v: %s changes what is handed in", p.did, what)
				}
			}
			p.ask(call{do: c.do, key: key, val: c.val})
			p.did[len(p.did)-1] = c
			stays("the last call")
			p.tree.Get(key)
			stays("Get")
			p.tree.Scan(key, 5)
			stays("Scan")
			spoil(key)
			p.look()
		}
		p.lookAround()
	}
}

// A key that is handed in again and again, and changed in between.
func TestOneSliceForAllKeys(t *testing.T) {
	p := starting(t)
	key := make([]byte, 4, 9)
	for _, order := range orders(60) {
		for _, k := range order {
			copy(key, name(k))
			p.ask(call{do: put, key: key, val: k})
			p.look()
		}
		copy(key, name(30))
		p.ask(call{do: drop, key: key})
		spoil(key)
		p.look()
	}
}

// R3: what is told is new memory, spare room too, the keys in it too

func TestWhatIsToldIsNewMemory(t *testing.T) {
	d := dice(22)
	for range 10 {
		p := starting(t)
		for step := range 300 {
			p.ask(somecall(&d, &p.plain, step))
			l, again := p.tree.Scan(nil, math.MaxInt), p.tree.Scan(nil, math.MaxInt)
			spoilPairs(l)
			if !same(again, p.plain.pairs) {
				t.Fatalf("%v: two of Scan share memory", p.did)
			}
			spoilPairs(again)
			levels, other := p.tree.Levels(), p.tree.Levels()
			for _, sizes := range inside(levels) {
				spoil(sizes)
			}
			if wrong := shape(other, len(p.plain.pairs)); wrong != "" {
				t.Fatalf("%v: two of Levels share memory: %s", p.did, wrong)
			}
			clear(inside(levels))
			p.look()
		}
	}
}

// No two keys, and no two levels, of one answer share memory.
func TestPartsOfAnAnswer(t *testing.T) {
	d := dice(23)
	for range 20 {
		p := grown(t, &d, 300)
		l := p.tree.Scan(nil, math.MaxInt)
		for i := range l {
			spoil(l[i].Key)
			if !same(l[i+1:], p.plain.pairs[i+1:]) {
				t.Fatalf("%v: key %d shares memory with another one", p.did, i)
			}
		}
		levels := p.tree.Levels()
		for i := range levels {
			spoil(levels[i])
			if !sameLevels(levels[i+1:], p.tree.Levels()[i+1:]) {
				t.Fatalf("%v: level %d shares memory with another one", p.did, i)
			}
		}
		p.look()
	}
}

// What was told of a tree is not its copy's either.
func TestWhatIsToldOfACopyIsNewMemory(t *testing.T) {
	p := starting(t, puts(orders(60)[4]...))
	c := p.copied()
	for _, one := range []*pair{p, c} {
		spoilPairs(one.tree.Scan(nil, math.MaxInt))
		for _, sizes := range one.tree.Levels() {
			spoil(sizes)
		}
		p.look()
		c.look()
	}
}

// What was told stays as it was, whatever is done to the tree.
func TestWhatWasToldStays(t *testing.T) {
	p := starting(t, puts(orders(60)[5]...))
	l, levels := p.tree.Scan(nil, math.MaxInt), p.tree.Levels()
	pairs, was := slices.Clone(p.plain.pairs), p.tree.Levels()
	for k := range 60 {
		p.ask(call{do: put, key: name(k), val: -1})
		p.ask(call{do: put, key: ahead(k), val: -1})
	}
	for k := range 60 {
		p.ask(drops(k)[0])
	}
	if !same(l, pairs) || !sameLevels(levels, was) {
		t.Errorf("became %v, %v", l, levels)
	}
}

// R4: a call hangs on what was done to its tree alone: of two that had the same calls both tell the same

func TestTheSameEachTime(t *testing.T) {
	d := dice(24)
	for range 10 {
		one, other := starting(t), starting(t)
		for step := range 300 {
			one.ask(somecall(&d, &one.plain, step))
			other.ask(somecall(&d, &other.plain, step))
		}
		for _, p := range []*pair{one, other} {
			p.look()
			for range 3 {
				if again := starting(t, p.did); !sameLevels(again.tree.Levels(), p.tree.Levels()) {
					t.Fatalf("%v: %v, and then %v", p.did, p.tree.Levels(), again.tree.Levels())
				}
			}
		}
	}
}
