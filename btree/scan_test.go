package btree_test

import (
	"bytes"
	"math"
	"slices"
	"testing"

	"quarantine/btree"
)

// numbers tells the values of pairs, which are their keys' numbers.
func numbers(l []btree.Pair[int]) []int {
	var out []int
	for _, one := range l {
		if !bytes.Equal(one.Key, name(one.Val)) {
			return []int{-1}
		}
		out = append(out, one.Val)
	}
	return out
}

// span tells the numbers from from to to.
func span(from, to int) []int {
	var out []int
	for k := from; k <= to; k++ {
		out = append(out, k)
	}
	return out
}

// P15.1 Scan: the pairs with keys from from on, rising, at most so many

func TestScan(t *testing.T) {
	for _, n := range []int{1, 6, 7, 8, 36, 37, 100, 300} {
		for _, order := range orders(n) {
			p := starting(t, puts(order...))
			scan := func(from []byte, most int, want ...int) {
				t.Helper()
				if got := numbers(p.tree.Scan(from, most)); !slices.Equal(got, want) {
					t.Fatalf("%d keys: Scan(%q, %d): %v, not %v", n, from, most, got, want)
				}
			}
			for _, from := range [][]byte{nil, {}, {0}, []byte("000")} {
				scan(from, n, span(0, n-1)...)
				scan(from, n+1, span(0, n-1)...)
				scan(from, n-1, span(0, n-2)...)
				scan(from, 1, 0)
				scan(from, 0)
			}
			for k := range n {
				for _, most := range []int{n - k, n - k + 1, math.MaxInt} {
					scan(name(k), most, span(k, n-1)...)
					scan(ahead(k), most, span(k, n-1)...)
				}
				scan(name(k), n-k-1, span(k, n-2)...)
				for _, from := range [][]byte{name(k), ahead(k)} {
					scan(from, 1, k)
					scan(from, 3, span(k, min(k+2, n-1))...)
					scan(from, 0)
					scan(from, -1)
					scan(from, math.MinInt)
				}
			}
			for _, from := range [][]byte{ahead(n), name(n), {255}, []byte("1")} {
				scan(from, 1)
				scan(from, math.MaxInt)
			}
		}
	}
}

// Piece by piece: from the last key told, which is told again, or from the key right behind it.
func TestScanPieceByPiece(t *testing.T) {
	for _, n := range []int{0, 1, 6, 7, 50, 200} {
		p := starting(t, puts(orders(n)[5]...))
		for most := 1; most <= 10; most++ {
			var all []btree.Pair[int]
			var from []byte
			for {
				piece := p.tree.Scan(from, most)
				all = append(all, piece...)
				if len(piece) < most {
					break
				}
				from = append(piece[most-1].Key, 0)
			}
			if !same(all, p.plain.pairs) {
				t.Fatalf("%d keys, %d at a time: %v", n, most, all)
			}
			all = p.tree.Scan(nil, 1)
			for more := len(all) > 0; more; {
				piece := p.tree.Scan(all[len(all)-1].Key, most+1)
				if !same(piece[:1], all[len(all)-1:]) {
					t.Fatalf("%d keys, %d at a time: %v behind %v", n, most, piece, all)
				}
				all = append(all, piece[1:]...)
				more = len(piece) > 1
			}
			if !same(all, p.plain.pairs) {
				t.Fatalf("%d keys, %d at a time: %v", n, most, all)
			}
		}
	}
}

// Byte by byte, a beginning ahead of what is longer; a number as a key's length says nothing, nor is a byte above 127 below 0.
func TestTheOrderOfKeys(t *testing.T) {
	keys := edges()
	for _, order := range orders(len(keys)) {
		x := btree.New[int]()
		for _, k := range order {
			x.Put(keys[k], k)
		}
		for from := range keys {
			for most := range len(keys) + 2 {
				l := x.Scan(keys[from], most)
				if len(l) != min(most, len(keys)-from) {
					t.Fatalf("Scan(%q, %d): %v", keys[from], most, l)
				}
				for i, one := range l {
					if one.Val != from+i || !bytes.Equal(one.Key, keys[from+i]) {
						t.Fatalf("Scan(%q, %d): %v", keys[from], most, l)
					}
				}
			}
		}
	}
}

// A piece stops where it must in the midst of a leaf, and at the end of one; and a scan from a key that was dropped begins behind it.
func TestScanBehindDroppings(t *testing.T) {
	for _, order := range orders(80) {
		p := starting(t, puts(order...))
		for k := range 80 {
			if k%3 > 0 {
				p.tells(true, drops(order[k])[0])
			}
		}
		p.lookAround()
		for k := range 80 {
			if got := p.plain.at(p.tree, name(k)); got != "" {
				t.Fatalf("%v: %s", p.did, got)
			}
		}
	}
}
