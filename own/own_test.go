package own

import (
	"slices"
	"testing"

	"quarantine/api"
	"quarantine/label"
)

// eight is a label with as many tags as one may have.
var eight = api.Label{0, 1, 2, 255, 256, 258, 40000, 65535}

// nine tags rise, each once, and are one more than a label may have.
var nine = []uint16{0, 1, 2, 255, 256, 258, 259, 40000, 65535}

// some tells all labels of four tags: both ends, and such as differ in one byte alone.
func some() []api.Label {
	all := []api.Label{nil}
	for _, tag := range []uint16{0, 1, 257, 65535} {
		for _, l := range slices.Clone(all) {
			all = append(all, append(slices.Clone(l), tag))
		}
	}
	return all
}

// roomy is a copy of l with spare room of known items, and a check that neither was touched.
func roomy(t *testing.T, l []uint16) ([]uint16, func()) {
	t.Helper()
	full := append(slices.Clone(l), 77, 77, 77, 77, 77, 77, 77, 77, 77, 77, 77, 77)
	was := slices.Clone(full)
	return full[:len(l)], func() {
		t.Helper()
		if !slices.Equal(full, was) {
			t.Errorf("what was handed in is now %v, and was %v", full, was)
		}
	}
}

// turned is l from its end to its beginning.
func turned(l []uint16) []uint16 {
	l = slices.Clone(l)
	slices.Reverse(l)
	return l
}

// P2.1 May
func TestMay(t *testing.T) {
	for _, x := range []struct {
		name  string
		owns  api.Label
		strip []uint16
		want  api.Errno
	}{
		{"one of those owned", api.Label{1, 5, 9}, []uint16{5}, api.OK},
		{"the first and the last", api.Label{1, 5, 9}, []uint16{1, 9}, api.OK},
		{"all that is owned", api.Label{1, 5, 9}, []uint16{1, 5, 9}, api.OK},
		{"no tag to strip", api.Label{1, 5, 9}, nil, api.OK},
		{"an empty list to strip", api.Label{1, 5, 9}, []uint16{}, api.OK},
		{"no tag to strip and nothing owned", nil, nil, api.OK},
		{"an empty list owned", api.Label{}, []uint16{}, api.OK},
		{"nothing owned", nil, []uint16{5}, api.ErrOwn},
		{"an empty list owned, one to strip", api.Label{}, []uint16{0}, api.ErrOwn},
		{"tag 0, not owned", api.Label{1}, []uint16{0}, api.ErrOwn},
		{"tag 0, owned", api.Label{0}, []uint16{0}, api.OK},
		{"the last tag, not owned", api.Label{65534}, []uint16{65535}, api.ErrOwn},
		{"the last tag, owned", api.Label{65535}, []uint16{65535}, api.OK},
		{"not owned, ahead of such as are", api.Label{1, 5, 9}, []uint16{0, 1, 5}, api.ErrOwn},
		{"not owned, among such as are", api.Label{1, 5, 9}, []uint16{1, 4, 5}, api.ErrOwn},
		{"not owned, behind such as are", api.Label{1, 5, 9}, []uint16{5, 9, 10}, api.ErrOwn},
		{"unlike in the higher byte alone", api.Label{1, 5, 9}, []uint16{257}, api.ErrOwn},
		{"told twice", api.Label{1, 5, 9}, []uint16{5, 5}, api.OK},
		{"out of order", api.Label{1, 5, 9}, []uint16{9, 5, 1}, api.OK},
		{"told twice and out of order", api.Label{1, 5, 9}, []uint16{9, 1, 9, 1}, api.OK},
		{"told twice, not owned", api.Label{1, 5, 9}, []uint16{2, 2}, api.ErrOwn},
		{"out of order, one not owned", api.Label{1, 5, 9}, []uint16{9, 2, 1}, api.ErrOwn},
	} {
		if e := May(x.owns, x.strip); e != x.want {
			t.Errorf("%s: May(%v, %v) is %d, not %d", x.name, x.owns, x.strip, e, x.want)
		}
	}
}

// P2.1 May: as many tags as a door may strip, and more
func TestMayOfManyTags(t *testing.T) {
	twice := append(slices.Clone(eight), turned(eight)...)
	long := make([]uint16, 70000)
	for i := range long {
		long[i] = uint16(i)
	}
	for _, x := range []struct {
		name  string
		owns  api.Label
		strip []uint16
		want  api.Errno
	}{
		{"MaxTags", eight, eight, api.OK},
		{"MaxTags, turned", eight, turned(eight), api.OK},
		{"MaxTags unlike ones, each twice", eight, twice, api.OK},
		{"MaxTags, one not owned", eight[1:], eight, api.ErrOwn},
		{"MaxTags, each twice, one not owned", eight[:7], twice, api.ErrOwn},
		{"one more, eight of them owned", eight, nine, api.ErrLong},
		{"one more, turned", eight, turned(nine), api.ErrLong},
		// What is too long is told ahead of what is not owned.
		{"one more, none owned", nil, nine, api.ErrLong},
		{"one more, told twice", eight, append(slices.Clone(nine), nine...), api.ErrLong},
		{"one more, all of them in what is no label", api.Label(nine), nine, api.ErrLong},
		{"one tag, many times", api.Label{7}, slices.Repeat([]uint16{7}, 70000), api.OK},
		{"one tag, many times, not owned", api.Label{8}, slices.Repeat([]uint16{7}, 70000), api.ErrOwn},
		{"all tags there are", eight, long, api.ErrLong},
	} {
		if e := May(x.owns, x.strip); e != x.want {
			t.Errorf("%s: %d, not %d", x.name, e, x.want)
		}
	}
}

// P2.1 Flows
func TestFlows(t *testing.T) {
	for _, x := range []struct {
		a, b, owns api.Label
		want       bool
	}{
		{api.Label{1, 2}, api.Label{2}, api.Label{1}, true},
		{api.Label{1, 2}, api.Label{1}, api.Label{1}, false},
		{api.Label{1, 2}, api.Label{2}, nil, false},
		{api.Label{1, 2}, api.Label{1, 2}, nil, true},
		{api.Label{1, 2}, nil, api.Label{1, 2}, true},
		{api.Label{1, 2}, nil, api.Label{1}, false},
		{api.Label{1, 2}, nil, api.Label{2}, false},
		{api.Label{1, 2, 3}, api.Label{1, 3}, api.Label{2, 9}, true},
		{api.Label{1, 2, 3}, api.Label{1, 9}, api.Label{2, 8}, false},
		{nil, nil, nil, true},
		{api.Label{}, api.Label{}, api.Label{}, true},
		{nil, api.Label{5}, nil, true},
		{nil, nil, api.Label{5}, true},
		{api.Label{5}, nil, nil, false},
		{api.Label{5}, api.Label{261}, api.Label{65535}, false},
		{eight, eight[:4], eight[4:], true},
		{eight, eight[:4], eight[5:], false},
		{eight, eight[5:], eight[:4], false},
		// To own a tag of b takes nothing off b.
		{api.Label{1}, api.Label{1}, api.Label{1}, true},
		{api.Label{2}, api.Label{2}, api.Label{1, 2, 3}, true},
	} {
		if got := Flows(x.a, x.b, x.owns); got != x.want {
			t.Errorf("Flows(%v, %v, %v) is %v", x.a, x.b, x.owns, got)
		}
	}
}

// P2.1 Strip
func TestStrip(t *testing.T) {
	for _, x := range []struct{ l, strip, want api.Label }{
		{api.Label{1, 2, 3}, api.Label{2, 7}, api.Label{1, 3}},
		{api.Label{1, 2, 3}, api.Label{1}, api.Label{2, 3}},
		{api.Label{1, 2, 3}, api.Label{3}, api.Label{1, 2}},
		{api.Label{1, 2, 3}, api.Label{1, 2, 3}, nil},
		{api.Label{1, 2, 3}, nil, api.Label{1, 2, 3}},
		{api.Label{1, 2, 3}, api.Label{}, api.Label{1, 2, 3}},
		{api.Label{1, 2, 3}, api.Label{0, 4, 257}, api.Label{1, 2, 3}},
		{nil, api.Label{1, 2, 3}, nil},
		{nil, nil, nil},
		{api.Label{}, api.Label{}, nil},
		{api.Label{0, 65535}, api.Label{0}, api.Label{65535}},
		{api.Label{0, 65535}, api.Label{65535}, api.Label{0}},
		{eight, eight[2:7], api.Label{0, 1, 65535}},
		{eight, nil, eight},
		{eight, eight, nil},
	} {
		if got := Strip(x.l, x.strip); !slices.Equal(got, x.want) {
			t.Errorf("Strip(%v, %v) is %v, not %v", x.l, x.strip, got, x.want)
		}
	}
}

// P2.1: all small triples, held against a look at tag after tag
func TestAllTriples(t *testing.T) {
	for _, a := range some() {
		for _, b := range some() {
			checkPair(t, a, b)
			for _, owns := range some() {
				want := true
				for _, tag := range a {
					want = want && (slices.Contains(owns, tag) || slices.Contains(b, tag))
				}
				if got := Flows(a, b, owns); got != want {
					t.Fatalf("Flows(%v, %v, %v) is %v", a, b, owns, got)
				}
			}
		}
	}
}

func checkPair(t *testing.T, a, b api.Label) {
	t.Helper()
	var rest api.Label
	for _, tag := range a {
		if !slices.Contains(b, tag) {
			rest = append(rest, tag)
		}
	}
	got := Strip(a, b)
	if !slices.Equal(got, rest) || !label.May(got) {
		t.Fatalf("Strip(%v, %v) is %v, not %v", a, b, got, rest)
	}
	want := api.OK
	if len(rest) > 0 {
		want = api.ErrOwn
	}
	if e := May(b, a); e != want {
		t.Fatalf("May(%v, %v) is %d, not %d", b, a, e, want)
	}
}

// P2.1: who may make the door may see what comes through it
func TestWhatADoorStripsItsMakerMaySee(t *testing.T) {
	for _, l := range some() {
		for _, strip := range some() {
			for _, owns := range some() {
				if May(owns, strip) == api.OK && !Flows(l, Strip(l, strip), owns) {
					t.Fatalf("%v, stripped of %v, which %v owns", l, strip, owns)
				}
			}
		}
	}
}

// R1: lists that are no labels are answered as the sets of their tags
func TestListsThatAreNoLabels(t *testing.T) {
	wild := api.Label{9, 1, 9, 5}
	if got := Strip(wild, api.Label{5, 5}); !slices.Equal(got, api.Label{1, 9}) {
		t.Errorf("Strip: %v", got)
	}
	if !Flows(wild, api.Label{9}, api.Label{5, 1, 5}) || Flows(wild, api.Label{9}, api.Label{1, 1}) {
		t.Error("Flows")
	}
	if e := May(wild, []uint16{1, 9}); e != api.OK {
		t.Errorf("May: %d", e)
	}
}

// R3: neither changed nor kept, and new memory
func TestNothingIsShared(t *testing.T) {
	for _, tags := range [][]uint16{nil, {1}, {1, 2, 3}, {3, 1, 3}, eight, nine} {
		for _, other := range [][]uint16{nil, {2}, {3, 1, 3}, eight} {
			a, sameA := roomy(t, tags)
			b, sameB := roomy(t, other)
			c, sameC := roomy(t, other)
			May(b, a)
			Flows(a, b, c)
			got := Strip(a, b)
			sameA()
			sameB()
			sameC()
			got = got[:cap(got)]
			for i := range got {
				got[i] = 99
			}
			sameA()
			sameB()
		}
	}
}

// left hangs on no kind of item.
func TestLeft(t *testing.T) {
	minus := func(a, b int) int { return a - b }
	if left(minus, 9, 4, 2) != 3 || left(minus, 9) != 9 {
		t.Error("of numbers")
	}
}
