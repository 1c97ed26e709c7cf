package label

import (
	"bytes"
	"slices"
	"testing"

	"quarantine/api"
)

// eight is a label with as many tags as one may have.
var eight = api.Label{0, 1, 2, 255, 256, 258, 40000, 65535}

// subsets tells all labels of these tags, which rise.
func subsets(tags ...uint16) []api.Label {
	all := []api.Label{nil}
	for _, tag := range tags {
		for _, l := range slices.Clone(all) {
			all = append(all, append(slices.Clone(l), tag))
		}
	}
	return all
}

// some is small enough to try all triples, and has both ends of the tags and such as differ in one byte alone.
func some() []api.Label { return subsets(0, 1, 256, 257, 65535) }

// chosen tells, rising and each once, the tags for which keep holds: one by one, with no cleverness.
func chosen(keep func(uint16) bool) api.Label {
	var l api.Label
	for tag := 0; tag <= 65535; tag++ {
		if keep(uint16(tag)) {
			l = append(l, uint16(tag))
		}
	}
	return l
}

// roomy is a copy of l with spare room of known items, and a check that neither was touched.
func roomy[T whole](t *testing.T, l []T) ([]T, func()) {
	t.Helper()
	full := append(slices.Clone(l), 77, 77, 77, 77, 77, 77, 77, 77, 77, 77, 77, 77, 77, 77, 77, 77, 77, 77, 77, 77)
	was := slices.Clone(full)
	return full[:len(l)], func() {
		t.Helper()
		if !slices.Equal(full, was) {
			t.Errorf("what was handed in is now %v, and was %v", full, was)
		}
	}
}

// scribble writes over all of l, spare room too, so that shared memory shows.
func scribble[T whole](l []T) {
	l = l[:cap(l)]
	for i := range l {
		l[i] = 99
	}
}

// P1.1 May

func TestMay(t *testing.T) {
	for _, x := range []struct {
		l    api.Label
		want bool
	}{
		{nil, true},
		{api.Label{}, true},
		{api.Label{0}, true},
		{api.Label{65535}, true},
		{api.Label{0, 65535}, true},
		{api.Label{7, 8}, true},
		{eight, true},
		{api.Label{1, 2, 3, 4, 5, 6, 7, 8, 9}, false},
		{api.Label{1, 1}, false},
		{api.Label{0, 0}, false},
		{api.Label{2, 1}, false},
		{api.Label{1, 2, 3, 3}, false},
		{api.Label{1, 2, 4, 3}, false},
		{api.Label{2, 1, 3, 4}, false},
		{api.Label{1, 1, 1, 1, 1, 1, 1, 1, 1}, false},
		{make(api.Label, 100000), false},
	} {
		if got := May(x.l); got != x.want {
			t.Errorf("May(%v): %v", x.l, got)
		}
	}
	l, untouched := roomy(t, api.Label{3, 1})
	May(l)
	untouched()
}

// P1.1 Norm

func TestNorm(t *testing.T) {
	for _, x := range []struct {
		l    []uint16
		want api.Label
	}{
		{nil, nil},
		{[]uint16{}, nil},
		{[]uint16{0}, api.Label{0}},
		{[]uint16{1, 3, 5}, api.Label{1, 3, 5}},
		{[]uint16{5, 3, 1}, api.Label{1, 3, 5}},
		{[]uint16{5, 1, 5, 3}, api.Label{1, 3, 5}},
		{[]uint16{0, 0, 0}, api.Label{0}},
		{[]uint16{65535, 0, 65535}, api.Label{0, 65535}},
		{eight, eight},
		{append(slices.Clone([]uint16(eight)), eight...), eight},
		{slices.Repeat([]uint16{8, 7, 6, 5, 4, 3, 2, 1}, 1000), api.Label{1, 2, 3, 4, 5, 6, 7, 8}},
	} {
		l, untouched := roomy(t, x.l)
		got, e := Norm(l)
		if !slices.Equal(got, x.want) || e != api.OK || !May(got) {
			t.Errorf("Norm(%v): %v %d", x.l, got, e)
		}
		scribble(got)
		untouched()
	}
}

func TestNormTooMany(t *testing.T) {
	for _, list := range [][]uint16{
		{1, 2, 3, 4, 5, 6, 7, 8, 9},
		{9, 8, 7, 6, 5, 4, 3, 2, 1},
		{1, 2, 3, 4, 5, 6, 7, 8, 8, 8, 8, 0},
		append(slices.Clone([]uint16(eight)), 3),
		slices.Repeat([]uint16{1, 2, 3, 4, 5, 6, 7, 8, 9}, 1000),
		chosen(func(uint16) bool { return true }),
	} {
		l, untouched := roomy(t, list)
		if got, e := Norm(l); len(got) != 0 || e != api.ErrLong {
			t.Errorf("Norm of %d tags: %v %d", len(list), got, e)
		}
		untouched()
	}
}

// P1.1 Flows, Join, Meet, Minus

func TestOfTwo(t *testing.T) {
	a, b := api.Label{1, 3}, api.Label{2, 3, 65535}
	for _, x := range []struct {
		name      string
		got, want api.Label
	}{
		{"the chapter's Join", Join(api.Label{1, 3}, api.Label{2}), api.Label{1, 2, 3}},
		{"Join", Join(a, b), api.Label{1, 2, 3, 65535}},
		{"Meet", Meet(a, b), api.Label{3}},
		{"Minus", Minus(a, b), api.Label{1}},
		{"Minus, turned", Minus(b, a), api.Label{2, 65535}},
		{"Join of none", Join(nil, api.Label{}), nil},
		{"Join with none", Join(nil, b), b},
		{"Meet with none", Meet(b, nil), nil},
		{"Minus none", Minus(b, nil), b},
		{"none Minus", Minus(nil, b), nil},
		{"Minus itself", Minus(eight, eight), nil},
	} {
		if !slices.Equal(x.got, x.want) {
			t.Errorf("%s: %v, not %v", x.name, x.got, x.want)
		}
	}
	if !Flows(nil, api.Label{5}) || !Flows(nil, nil) || !Flows(eight, eight) || !Flows(a, api.Label{1, 2, 3}) {
		t.Error("Flows: no, where it does")
	}
	if Flows(a, b) || Flows(a, nil) || Flows(a, api.Label{1}) || Flows(a, api.Label{3}) || Flows(eight, eight[:7]) || Flows(eight, eight[1:]) {
		t.Error("Flows: yes, where it does not")
	}
}

func TestJoinBeyondMaxTags(t *testing.T) {
	odd, even := api.Label{1, 3, 5, 7, 9, 11, 13, 15}, api.Label{2, 4, 6, 8, 10, 12, 14, 16}
	both := Join(odd, even)
	if !slices.Equal(both, api.Label{1, 2, 3, 4, 5, 6, 7, 8, 9, 10, 11, 12, 13, 14, 15, 16}) || May(both) {
		t.Errorf("Join: %v", both)
	}
	if !Flows(odd, both) || !Flows(even, both) || Flows(both, odd) || !slices.Equal(Minus(both, odd), even) || !slices.Equal(Meet(both, even), even) {
		t.Error("a Join of sixteen tags is no set of them")
	}
}

// checkPair holds the four against what their words say, tag by tag.
func checkPair(t *testing.T, a, b api.Label) {
	t.Helper()
	ina := func(tag uint16) bool { return slices.Contains(a, tag) }
	inb := func(tag uint16) bool { return slices.Contains(b, tag) }
	if got := Join(a, b); !slices.Equal(got, chosen(func(x uint16) bool { return ina(x) || inb(x) })) {
		t.Errorf("Join(%v, %v): %v", a, b, got)
	}
	if got := Meet(a, b); !slices.Equal(got, chosen(func(x uint16) bool { return ina(x) && inb(x) })) {
		t.Errorf("Meet(%v, %v): %v", a, b, got)
	}
	only := chosen(func(x uint16) bool { return ina(x) && !inb(x) })
	if got := Minus(a, b); !slices.Equal(got, only) {
		t.Errorf("Minus(%v, %v): %v", a, b, got)
	}
	if got := Flows(a, b); got != (len(only) == 0) {
		t.Errorf("Flows(%v, %v): %v", a, b, got)
	}
}

func TestAllPairs(t *testing.T) {
	for _, a := range subsets(0, 1, 256, 65535) {
		for _, b := range subsets(0, 2, 256, 65535) {
			checkPair(t, a, b)
		}
	}
}

// The promise is of labels that may be; of other lists the words are kept to as well: a list is the set of its tags.
func TestListsThatAreNoLabels(t *testing.T) {
	lists := []api.Label{{3, 1}, {1, 1}, {3, 1, 3}, {65535, 0, 65535}, {1, 3, 0}, {2}, nil, {1, 2, 3, 4, 5, 6, 7, 8, 9}}
	for _, a := range lists {
		for _, b := range lists {
			checkPair(t, a, b)
		}
	}
}

func TestLattice(t *testing.T) {
	for _, a := range some() {
		for _, b := range some() {
			flows := Flows(a, b)
			if flows != slices.Equal(Join(a, b), b) || flows != slices.Equal(Meet(a, b), a) {
				t.Errorf("%v, %v: Flows is not the order of Join and Meet", a, b)
			}
			if flows && Flows(b, a) && !slices.Equal(a, b) {
				t.Errorf("%v, %v flow to each other", a, b)
			}
			for _, c := range some() {
				if Flows(Join(a, b), c) != (Flows(a, c) && Flows(b, c)) {
					t.Errorf("%v, %v, %v: Join is not the least above both", a, b, c)
				}
				if Flows(c, Meet(a, b)) != (Flows(c, a) && Flows(c, b)) {
					t.Errorf("%v, %v, %v: Meet is not the greatest below both", a, b, c)
				}
			}
		}
	}
}

func TestSetsAreNewMemory(t *testing.T) {
	for _, op := range []func(a, b api.Label) api.Label{Join, Meet, Minus} {
		for _, x := range [][2]api.Label{{{1, 3}, {2, 3}}, {{1, 3}, nil}, {nil, {1, 3}}, {{1}, {1}}, {{3, 1}, {5, 4}}, {{1}, {5}}, {eight, eight[:4]}} {
			a, untouchedA := roomy(t, x[0])
			b, untouchedB := roomy(t, x[1])
			Flows(a, b)
			Compare(a, b)
			scribble(op(a, b))
			untouchedA()
			untouchedB()
		}
	}
	l, untouched := roomy(t, eight[:5])
	scribble(Join(l[:2], l[1:]))
	scribble(Meet(l, l))
	untouched()
}

// P1.2 Compare

func TestCompare(t *testing.T) {
	rising := []api.Label{nil, {0}, {1}, {255}, {256}, {65535}, {0, 1}, {0, 65535}, {1, 2}, {1, 3}, {2, 3}, {0, 1, 2}, {0, 1, 3}, {0, 2, 3}, {1, 2, 3}, eight[:7], eight}
	for i, a := range rising {
		for j, b := range rising {
			want := 0
			if i < j {
				want = -1
			} else if i > j {
				want = 1
			}
			if got := Compare(a, b); got != want {
				t.Errorf("Compare(%v, %v): %d, not %d", a, b, got, want)
			}
		}
	}
	if Compare(nil, api.Label{}) != 0 || Compare(api.Label{}, nil) != 0 {
		t.Error("nil and an empty list are one")
	}
	if Compare(api.Label{3, 1}, api.Label{1, 3}) != 1 || Compare(api.Label{1, 1}, api.Label{1}) != 1 {
		t.Error("lists that are no labels stand by length, then by tag, too")
	}
}

func TestCompareStandsAsTheBytesDo(t *testing.T) {
	for _, a := range some() {
		for _, b := range some() {
			c := Compare(a, b)
			if c != bytes.Compare(Put(nil, a), Put(nil, b)) || c != -Compare(b, a) || (c == 0) != slices.Equal(a, b) {
				t.Errorf("Compare(%v, %v): %d", a, b, c)
			}
		}
	}
}

// P1.2 Put

func TestPut(t *testing.T) {
	for _, x := range []struct {
		b    []byte
		l    api.Label
		want []byte
	}{
		{nil, nil, []byte{0}},
		{[]byte{}, api.Label{}, []byte{0}},
		{[]byte{7}, nil, []byte{7, 0}},
		{nil, api.Label{0}, []byte{1, 0, 0}},
		{nil, api.Label{65535}, []byte{1, 255, 255}},
		{[]byte{7}, api.Label{1, 258}, []byte{7, 2, 0, 1, 1, 2}},
		{[]byte{9, 9}, eight, []byte{9, 9, 8, 0, 0, 0, 1, 0, 2, 0, 255, 1, 0, 1, 2, 156, 64, 255, 255}},
	} {
		b, untouchedB := roomy(t, x.b)
		l, untouchedL := roomy(t, x.l)
		got := Put(b, l)
		if !bytes.Equal(got, x.want) {
			t.Errorf("Put(%v, %v): %v", x.b, x.l, got)
		}
		scribble(got)
		untouchedB()
		untouchedL()
	}
}

// P1.2 Take

func TestTakeIsPutsBack(t *testing.T) {
	for _, want := range append(some(), eight, eight[:7], api.Label{1, 2, 3, 4, 5, 6, 7, 8}) {
		put := Put(nil, want)
		b, untouched := roomy(t, put)
		for _, behind := range []int{0, 1, 20} { // the spare room serves as bytes that follow
			l, n, e := Take(b[:len(put)+behind])
			if !slices.Equal(l, want) || n != 1+2*len(want) || e != api.OK {
				t.Errorf("Take of %v and %d bytes: %v %d %d", want, behind, l, n, e)
			}
			scribble(l)
			untouched()
		}
		for i := range put {
			if l, n, e := Take(b[:i]); len(l) != 0 || n != 0 || e != api.ErrShort {
				t.Errorf("Take of %d bytes of %v: %v %d %d", i, want, l, n, e)
			}
		}
	}
}

func TestTakeErrors(t *testing.T) {
	for _, x := range []struct {
		b    []byte
		want api.Errno
	}{
		{nil, api.ErrShort},
		{[]byte{}, api.ErrShort},
		{[]byte{1}, api.ErrShort},
		{[]byte{1, 0}, api.ErrShort},
		{[]byte{8}, api.ErrShort},
		{[]byte{8, 0, 1, 0, 2, 0, 3, 0, 4, 0, 5, 0, 6, 0, 7, 0}, api.ErrShort},
		{[]byte{9}, api.ErrForm},
		{[]byte{255}, api.ErrForm},
		{[]byte{9, 0, 1, 0, 2, 0, 3, 0, 4, 0, 5, 0, 6, 0, 7, 0, 8, 0, 9}, api.ErrForm},
		{[]byte{2, 0, 1, 0, 1}, api.ErrForm},
		{[]byte{2, 0, 0, 0, 0}, api.ErrForm},
		{[]byte{2, 0, 2, 0, 1}, api.ErrForm},
		{[]byte{2, 1, 0, 0, 255}, api.ErrForm},
		{[]byte{3, 0, 1, 0, 2, 0, 2, 0, 9}, api.ErrForm},
		{[]byte{2, 0, 2, 0}, api.ErrShort},
		{[]byte{3, 0, 2, 0, 1}, api.ErrShort},
		{[]byte{3, 0, 2, 0, 1, 0}, api.ErrShort},
	} {
		b, untouched := roomy(t, x.b)
		if l, n, e := Take(b); len(l) != 0 || n != 0 || e != x.want {
			t.Errorf("Take(%v): %v %d %d, not %d", x.b, l, n, e, x.want)
		}
		untouched()
	}
	for many := api.MaxTags + 1; many <= 255; many++ {
		if l, n, e := Take(append([]byte{byte(many)}, make([]byte, 600)...)); len(l) != 0 || n != 0 || e != api.ErrForm {
			t.Errorf("Take of %d tags: %v %d %d", many, l, n, e)
		}
	}
}

// What Take takes is a label, and Put puts the same bytes back: so nothing has two forms.
func TestTakeOfAnyBytes(t *testing.T) {
	list := [][]byte{nil}
	for len(list) > 0 {
		b := list[0]
		list = list[1:]
		l, n, e := Take(b)
		if e == api.OK && (!May(l) || !bytes.Equal(Put(nil, l), b[:n])) {
			t.Errorf("Take(%v): %v %d", b, l, n)
		}
		if e != api.OK && (len(l) != 0 || n != 0 || e != api.ErrShort && e != api.ErrForm) {
			t.Errorf("Take(%v): %v %d %d", b, l, n, e)
		}
		if len(b) < 6 {
			for _, next := range []byte{0, 1, 2, 9, 255} {
				list = append(list, append(slices.Clone(b), next))
			}
		}
	}
}

// The chapter's ways: the functions beneath are over whole numbers of any kind.
func TestSetsOfOtherNumbers(t *testing.T) {
	a, b := []int64{-5, 0, 1 << 40}, []int64{-5, 7}
	if got := merge(a, b, share{left: true, both: true, right: true}); !slices.Equal(got, []int64{-5, 0, 7, 1 << 40}) {
		t.Errorf("merge: %v", got)
	}
	if got := ordered([]int8{3, -128, 127, 3}); !slices.Equal(got, []int8{-128, 3, 127}) {
		t.Errorf("ordered: %v", got)
	}
	if within(a, b) || !within(b[:1], a) || compare(b, a) != -1 || !rises(a) {
		t.Error("within, compare, rises")
	}
}
