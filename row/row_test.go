package row

import (
	"bytes"
	"math"
	"slices"
	"strings"
	"testing"

	"quarantine/api"
	"quarantine/value"
)

func number(n int64) api.Value { return api.Value{Kind: api.Int, Int: n} }

func text(s string) api.Value { return api.Value{Kind: api.Text, Text: s} }

// full is a text with as many bytes as one may have.
var full = strings.Repeat("x", api.MaxLetter)

// good tells values that may be.
func good() []api.Value {
	return []api.Value{number(0), number(-1), number(math.MinInt64), number(math.MaxInt64), text(""), text("a"), text(" ~"), text(full)}
}

// strange tells values that may not be.
func strange() []api.Value {
	return []api.Value{
		{},
		{Kind: api.Bool, Int: 1},
		{Kind: -1},
		{Kind: 4},
		{Kind: math.MaxInt, Int: 7, Text: "a"},
		{Kind: api.Int, Text: "a"},
		{Kind: api.Int, Int: 7, Text: "7"},
		{Kind: api.Text, Int: 1},
		{Kind: api.Text, Int: -1, Text: "a"},
		text(full + "x"),
		text(strings.Repeat("~", 1<<20)),
		text("\x1f"),
		text("\x7f"),
		text("\x00"),
		text("a\x00"),
		text("a\nb"),
		text("\u00e9"),
	}
}

// rows tells rows that may be: of each length, of each good value at each place, alike and mixed.
func rows() [][]api.Value {
	var all [][]api.Value
	values := good()
	for n := 1; n <= api.MaxCols; n++ {
		for i, v := range values {
			all = append(all, slices.Repeat([]api.Value{v}, n))
			mixed := make([]api.Value, n)
			for k := range mixed {
				mixed[k] = values[(i+k)%len(values)]
			}
			all = append(all, mixed)
		}
	}
	return all
}

// spoilt tells lists of a right length with one value that may not be, at each place.
func spoilt() [][]api.Value {
	var all [][]api.Value
	for _, v := range strange() {
		for n := 1; n <= api.MaxCols; n++ {
			for at := range n {
				l := slices.Repeat([]api.Value{number(5)}, n)
				l[at] = v
				all = append(all, l)
			}
		}
	}
	return all
}

// ofWrongLength tells lists of good values alone that are too few or too many.
func ofWrongLength() [][]api.Value {
	all := [][]api.Value{nil, {}, good()[:0]}
	for _, n := range []int{api.MaxCols + 1, api.MaxCols + 2, 255, 256, 257, 256 + api.MaxCols, 1 << 16, 1 << 20} {
		all = append(all, slices.Repeat([]api.Value{number(1)}, n), slices.Repeat([]api.Value{text("")}, n))
	}
	return all
}

// bytesOf tells the bytes of l by the chapter's words, whether l may be or not.
func bytesOf(l ...api.Value) []byte {
	b := []byte{byte(len(l))}
	for _, v := range l {
		b = append(b, value.Key(nil, v)...)
	}
	return b
}

// joined tells all lists of bytes, one behind the other, as new memory.
func joined(lists ...[]byte) []byte { return bytes.Join(lists, nil) }

// name tells of a list that may be long.
func name(l []api.Value) []api.Value { return l[:min(len(l), api.MaxCols+1)] }

// P5.1 May

func TestMay(t *testing.T) {
	for _, l := range rows() {
		if !May(l) {
			t.Errorf("%v may be", l)
		}
	}
	for _, l := range spoilt() {
		if May(l) {
			t.Errorf("%.200v may not be", l)
		}
	}
	for _, l := range ofWrongLength() {
		if May(l) {
			t.Errorf("%d values may not be: %v ..", len(l), name(l))
		}
	}
}

func TestMayOfEachLength(t *testing.T) {
	for n := 0; n <= 600; n++ {
		if got := May(slices.Repeat([]api.Value{text("a")}, n)); got != (n >= 1 && n <= 6) {
			t.Errorf("%d values: %v", n, got)
		}
	}
}

// P5.1 Put

func TestPut(t *testing.T) {
	for _, x := range []struct {
		l    []api.Value
		want []byte
	}{
		{[]api.Value{text("a")}, []byte{1, 2, 97, 0}},
		{[]api.Value{text("")}, []byte{1, 2, 0}},
		{[]api.Value{number(0)}, []byte{1, 1, 128, 0, 0, 0, 0, 0, 0, 0}},
		{[]api.Value{number(-1), text(" ~")}, []byte{2, 1, 127, 255, 255, 255, 255, 255, 255, 255, 2, 32, 126, 0}},
		{[]api.Value{text(" ~"), number(-1)}, []byte{2, 2, 32, 126, 0, 1, 127, 255, 255, 255, 255, 255, 255, 255}},
		{[]api.Value{text(""), text("b"), text("")}, []byte{3, 2, 0, 2, 98, 0, 2, 0}},
		{slices.Repeat([]api.Value{text("")}, 6), []byte{6, 2, 0, 2, 0, 2, 0, 2, 0, 2, 0, 2, 0}},
		{[]api.Value{text(full)}, joined([]byte{1, 2}, []byte(full), []byte{0})},
	} {
		if got := Put(x.l); !bytes.Equal(got, x.want) {
			t.Errorf("%v: %v", x.l, got)
		}
	}
	for _, l := range rows() {
		if got := Put(l); !bytes.Equal(got, bytesOf(l...)) {
			t.Errorf("%v: %v", l, got)
		}
	}
}

func TestPutTellsNothingOfWhatMayNotBe(t *testing.T) {
	for _, l := range append(spoilt(), ofWrongLength()...) {
		if got := Put(l); len(got) != 0 {
			t.Errorf("%.200v: %v", name(l), got)
		}
	}
}

func TestMayAndPutLeaveWhatTheyAreHanded(t *testing.T) {
	for _, l := range append(rows(), spoilt()...) {
		room := append(slices.Clone(l), slices.Repeat([]api.Value{number(77)}, 10)...)
		was := slices.Clone(room)
		May(room[:len(l)])
		got := Put(room[:len(l)])
		again := slices.Clone(got)
		got = got[:cap(got)]
		for i := range got {
			got[i] = 99
		}
		if !slices.Equal(room, was) {
			t.Fatalf("%.200v: what was handed in is now %.200v", was, room)
		}
		if !bytes.Equal(Put(room[:len(l)]), again) {
			t.Fatalf("%.200v has other bytes when asked again", l)
		}
	}
}

// P5.1 Take

// fails holds Take to an error with nothing beside it, and to leaving b as it was.
func fails(t *testing.T, b []byte, want api.Errno) {
	t.Helper()
	was := slices.Clone(b)
	if l, e := Take(b); len(l) != 0 || e != want {
		t.Errorf("%v: %v %d, not %d", b, l, e, want)
	}
	if !bytes.Equal(b, was) {
		t.Errorf("%v is now %v", was, b)
	}
}

func TestTakeIsPutsBack(t *testing.T) {
	for _, l := range rows() {
		b := Put(l)
		// Spare room is none of the row.
		room := joined(b, []byte{2, 97, 0})
		for _, x := range [][]byte{b, room[:len(b)]} {
			if got, e := Take(x); !slices.Equal(got, l) || e != api.OK {
				t.Errorf("%v: %v %d", l, got, e)
			}
		}
	}
}

func TestTakeCutOff(t *testing.T) {
	fails(t, nil, api.ErrShort)
	fails(t, []byte{}, api.ErrShort)
	for _, l := range rows() {
		b := Put(l)
		for n := range len(b) {
			fails(t, b[:n:n], api.ErrShort)
			// The rest in the spare room is not there.
			fails(t, b[:n], api.ErrShort)
		}
	}
}

func TestTakeOfEachFirstByte(t *testing.T) {
	empty := []byte{2, 0}
	for c := 0; c <= 255; c++ {
		first := []byte{byte(c)}
		fit := joined(first, bytes.Repeat(empty, c))
		if c >= 1 && c <= 6 {
			fails(t, first, api.ErrShort)
			fails(t, fit[:len(fit)-1], api.ErrShort)
			fails(t, joined(fit, []byte{0}), api.ErrForm)
			if l, e := Take(fit); !slices.Equal(l, slices.Repeat([]api.Value{text("")}, c)) || e != api.OK {
				t.Errorf("%v: %v %d", fit, l, e)
			}
			continue
		}
		// Neither what is missing behind the byte nor what is right there is asked.
		for _, b := range [][]byte{first, fit, joined(first, empty), joined(first, []byte{2}), joined(first, []byte{3}), joined(fit, empty)} {
			fails(t, b, api.ErrForm)
		}
	}
}

// wrongBytes tells beginnings of which value.Take tells ErrForm, though some have no end.
func wrongBytes() [][]byte {
	return [][]byte{
		{0}, {3}, {255},
		{2, 31}, {2, 127}, {2, 128}, {2, 255}, {2, 1},
		{2, 'a', 31}, {2, 'a', 'b', 127},
		joined([]byte{2}, []byte(full), []byte{'x'}),
		joined([]byte{2}, []byte(full), []byte{31}),
	}
}

func TestTakeOfAWrongValue(t *testing.T) {
	for _, wrong := range wrongBytes() {
		if _, _, e := value.Take(wrong); e != api.ErrForm {
			t.Fatalf("%v: %d", wrong, e)
		}
		for n := 1; n <= api.MaxCols; n++ {
			for at := range n {
				for _, v := range good() {
					key := value.Key(nil, v)
					ahead := joined([]byte{byte(n)}, bytes.Repeat(key, at))
					rest := bytes.Repeat(key, n-1-at)
					fails(t, joined(ahead, wrong), api.ErrForm)
					fails(t, joined(ahead, wrong, []byte{0}), api.ErrForm)
					fails(t, joined(ahead, wrong, rest), api.ErrForm)
					fails(t, joined(ahead, wrong, []byte{0}, rest), api.ErrForm)
				}
			}
		}
	}
}

func TestTakeOfBytesBehind(t *testing.T) {
	for _, l := range rows() {
		b := Put(l)
		for _, behind := range [][]byte{{0}, {1}, {2}, {3}, {255}, {2, 0}, {2, 97, 0}, {2, 31}, b, bytes.Repeat([]byte{0}, 1000)} {
			fails(t, joined(b, behind), api.ErrForm)
		}
	}
	for c := 0; c <= 255; c++ {
		fails(t, []byte{1, 2, 97, 0, byte(c)}, api.ErrForm)
	}
}

func TestTakeTellsTheFirstThatIsMet(t *testing.T) {
	for _, x := range []struct {
		b    []byte
		want api.Errno
	}{
		// A wrong count, then bytes that end too soon.
		{[]byte{0}, api.ErrForm},
		{[]byte{7, 2}, api.ErrForm},
		{[]byte{255, 1, 128}, api.ErrForm},
		// A wrong value, then bytes that end too soon, or a further wrong value.
		{[]byte{2, 3}, api.ErrForm},
		{[]byte{2, 2, 31}, api.ErrForm},
		{[]byte{3, 2, 0, 0, 2}, api.ErrForm},
		{[]byte{3, 2, 0, 2, 'a', 31, 3}, api.ErrForm},
		// Bytes that end too soon ahead of where a wrong one would be.
		{[]byte{2, 2, 'a'}, api.ErrShort},
		{[]byte{2, 2, 'a', 0}, api.ErrShort},
		{[]byte{2, 1, 3, 3, 3, 3, 3, 3, 3}, api.ErrShort},
		{[]byte{2, 2, 0, 1, 0, 0, 0}, api.ErrShort},
		{joined([]byte{1, 2}, []byte(full)), api.ErrShort},
		// An Int may have any eight bytes; then the next value is wrong, or is not there.
		{[]byte{2, 1, 0, 0, 0, 0, 0, 0, 0, 0, 0}, api.ErrForm},
		{[]byte{2, 1, 31, 127, 255, 3, 0, 2, 1, 0}, api.ErrShort},
	} {
		fails(t, x.b, x.want)
	}
}

func TestTakeSharesNothing(t *testing.T) {
	l := []api.Value{text("a b"), number(7), text(full)}
	b := Put(l)
	got, _ := Take(b)
	other, _ := Take(b)
	for i := range b {
		b[i] = 'z'
	}
	if !slices.Equal(got, l) {
		t.Errorf("the row went with its bytes: %v", got)
	}
	got = got[:cap(got)]
	for i := range got {
		got[i] = number(99)
	}
	if !slices.Equal(other, l) {
		t.Errorf("one answer went with another: %v", other)
	}
	if !bytes.Equal(b, bytes.Repeat([]byte{'z'}, len(b))) {
		t.Errorf("the bytes went with the row: %v", b)
	}
}

// What Take answers may be, and Put has just the bytes that were taken: no row has two forms.
func FuzzTake(f *testing.F) {
	for _, l := range rows() {
		f.Add(Put(l))
	}
	f.Add([]byte{0})
	f.Add([]byte{7})
	f.Add([]byte{1, 2, 31, 0})
	f.Fuzz(func(t *testing.T, b []byte) {
		l, e := Take(b)
		if e != api.OK {
			fails(t, b, e)
			if e != api.ErrShort && e != api.ErrForm {
				t.Errorf("%v: %d", b, e)
			}
			return
		}
		if !May(l) || !bytes.Equal(Put(l), b) {
			t.Errorf("%v: %v", b, l)
		}
	})
}
