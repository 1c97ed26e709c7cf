package value

import (
	"bytes"
	"cmp"
	"math"
	"slices"
	"strings"
	"testing"

	"quarantine/api"
)

const high, low = math.MaxInt64, math.MinInt64

func number(n int64) api.Value { return api.Value{Kind: api.Int, Int: n} }

func text(s string) api.Value { return api.Value{Kind: api.Text, Text: s} }

// full is a text with as many bytes as one may have.
var full = strings.Repeat("x", api.MaxLetter)

// rising tells values that may be, each behind the ones that it must follow.
func rising() []api.Value {
	var all []api.Value
	numbers := []int64{low, low + 1, -1 << 56, -257, -256, -255, -2, -1, 0, 1, 2, 126, 127, 128, 255, 256, 257, 65535, 65536, 1 << 31, 1 << 32, 1 << 56, 1<<56 + 1, high - 1, high}
	for _, n := range numbers {
		all = append(all, number(n))
	}
	for _, s := range []string{"", " ", "  ", " ~", "!", "0", "00", "1", "A", "a", "a ", "a b", "aa", "ab", "a~", "b", full[1:], full[1:] + "w", full, full[1:] + "y", "~", "~ ", "~~"} {
		all = append(all, text(s))
	}
	return all
}

// strange tells values that may not be.
func strange() []api.Value {
	return []api.Value{
		{},
		{Kind: api.Bool, Int: 1},
		{Kind: -1},
		{Kind: 4},
		{Kind: high, Int: low, Text: "\u00e9"},
		{Kind: low, Int: high, Text: "a"},
		{Kind: api.Int + 256},
		{Kind: 0, Int: 5},
		{Kind: 0, Text: "a"},
		{Kind: api.Bool, Text: "a"},
		{Kind: api.Int, Text: "a"},
		{Kind: api.Int, Text: " "},
		{Kind: api.Int, Text: "\x00"},
		{Kind: api.Int, Int: 7, Text: "7"},
		{Kind: api.Text, Int: 1},
		{Kind: api.Text, Int: -1, Text: "a"},
		{Kind: api.Text, Int: low, Text: full},
		text(full + "x"),
		text(full + full),
		text(strings.Repeat("~", 1<<20)),
		text("\x1f"),
		text("\x7f"),
		text("\x00"),
		text("a\x00"),
		text("\x00a"),
		text("a\x1fb"),
		text("ab\x7f"),
		text("\xff"),
		text("\x80"),
		text("\n"),
		text("\u00e9"),
		text(full[1:] + "\x1f"),
		text(full[1:] + "\x7f"),
		text(full[2:] + "\u00e9"),
	}
}

// P4.1 May

func TestMay(t *testing.T) {
	for _, v := range rising() {
		if !May(v) {
			t.Errorf("%v may be", v)
		}
	}
	for _, v := range strange() {
		if May(v) {
			t.Errorf("%v may not be", v)
		}
	}
}

func TestMayOfEachByte(t *testing.T) {
	for c := 0; c <= 255; c++ {
		want := c >= 32 && c <= 126
		one := string([]byte{byte(c)})
		for _, s := range []string{one, one + "a", "a" + one, "a" + one + "a", one + full[1:], full[1:] + one} {
			if got := May(text(s)); got != want {
				t.Errorf("a text with byte %d, %q: %v", c, s, got)
			}
		}
	}
}

func TestMayOfEachLength(t *testing.T) {
	for n := 0; n <= 300; n++ {
		if got := May(text(strings.Repeat("~", n))); got != (n <= 30) {
			t.Errorf("a text of %d bytes: %v", n, got)
		}
	}
}

// P4.1 Compare

func TestCompare(t *testing.T) {
	all := rising()
	for i, a := range all {
		for j, b := range all {
			if got, want := Compare(a, b), cmp.Compare(i, j); got != want {
				t.Errorf("%v, %v: %d, not %d", a, b, got, want)
			}
		}
	}
}

func TestCompareOfKinds(t *testing.T) {
	for _, n := range []int64{low, -1, 0, 1, high} {
		for _, s := range []string{"", " ", "0", "a", full} {
			if Compare(number(n), text(s)) != -1 || Compare(text(s), number(n)) != 1 {
				t.Errorf("%d is not ahead of %q", n, s)
			}
		}
	}
}

func TestCompareOfBeginnings(t *testing.T) {
	whole := "a ~ few words, and no more ~ a"
	for n := range len(whole) {
		if Compare(text(whole[:n]), text(whole)) != -1 || Compare(text(whole), text(whole[:n])) != 1 {
			t.Errorf("%q is not ahead of %q", whole[:n], whole)
		}
	}
	if Compare(text(whole), text(strings.Clone(whole))) != 0 {
		t.Error("a text is not like its copy")
	}
}

// Of values that may not be nothing is promised but that the call ends; an order is kept to all the same, so that sorting by it is safe.
func TestCompareOfStrangeValues(t *testing.T) {
	all := append(strange(), number(0), number(1), text(""), text("a"))
	for _, a := range all {
		for _, b := range all {
			c := Compare(a, b)
			if c < -1 || c > 1 || c != -Compare(b, a) || (c == 0) != (a == b) {
				t.Errorf("%v, %v: %d", a, b, c)
			}
		}
	}
}

// P4.2 Key

func TestKey(t *testing.T) {
	for _, x := range []struct {
		v    api.Value
		want []byte
	}{
		{number(0), []byte{1, 128, 0, 0, 0, 0, 0, 0, 0}},
		{number(1), []byte{1, 128, 0, 0, 0, 0, 0, 0, 1}},
		{number(-1), []byte{1, 127, 255, 255, 255, 255, 255, 255, 255}},
		{number(low), []byte{1, 0, 0, 0, 0, 0, 0, 0, 0}},
		{number(low + 1), []byte{1, 0, 0, 0, 0, 0, 0, 0, 1}},
		{number(high), []byte{1, 255, 255, 255, 255, 255, 255, 255, 255}},
		{number(0x0102030405060708), []byte{1, 129, 2, 3, 4, 5, 6, 7, 8}},
		{number(-0x0102030405060708), []byte{1, 126, 253, 252, 251, 250, 249, 248, 248}},
		{text(""), []byte{2, 0}},
		{text("a"), []byte{2, 97, 0}},
		{text(" ~"), []byte{2, 32, 126, 0}},
		{text("a b"), []byte{2, 97, 32, 98, 0}},
		{text(full), append(append([]byte{2}, full...), 0)},
	} {
		for _, ahead := range [][]byte{nil, {}, {9}, {1, 2, 0}, bytes.Repeat([]byte{255}, 300)} {
			want := append(slices.Clone(ahead), x.want...)
			if got := Key(ahead, x.v); !bytes.Equal(got, want) {
				t.Errorf("%v behind %v: %v", x.v, ahead, got)
			}
		}
	}
}

func TestKeysStandAsTheirValuesDo(t *testing.T) {
	all := rising()
	for i, a := range all {
		for j, b := range all {
			x, y := Key(nil, a), Key(nil, b)
			if bytes.Compare(x, y) != Compare(a, b) {
				t.Errorf("the keys of %v and %v stand otherwise than they", a, b)
			}
			if i != j && bytes.HasPrefix(x, y) {
				t.Errorf("the key of %v begins with that of %v", a, b)
			}
		}
	}
}

// Spare room behind b is not b, but its owner may use it.
func TestKeyLeavesWhatItIsHanded(t *testing.T) {
	for _, v := range append(rising(), strange()...) {
		for _, n := range []int{0, 1, 5} {
			room := bytes.Repeat([]byte{77}, 100)
			got := Key(room[:n], v)
			again := slices.Clone(got)
			for i := range got[:cap(got)] {
				got[:cap(got)][i] = 99
			}
			if !bytes.Equal(room, bytes.Repeat([]byte{77}, 100)) {
				t.Fatalf("%v: what was handed in is now %v", v, room)
			}
			if !bytes.Equal(Key(room[:n], v), again) {
				t.Fatalf("%v has another key when asked again", v)
			}
		}
	}
}

// Of a kind that is neither, no bytes are named: those ahead stand alone.
func TestKeyOfStrangeValues(t *testing.T) {
	for _, v := range strange() {
		got := Key([]byte{9}, v)
		if len(got) == 0 || got[0] != 9 {
			t.Errorf("%v: %v", v, got)
		}
		if v.Kind != api.Int && v.Kind != api.Text && len(got) != 1 {
			t.Errorf("%v: %v", v, got)
		}
	}
}

// P4.2 Take

// fails holds Take to an error with nothing beside it.
func fails(t *testing.T, b []byte, want api.Errno) {
	t.Helper()
	was := slices.Clone(b)
	if v, n, e := Take(b); v != (api.Value{}) || n != 0 || e != want {
		t.Errorf("%v: %v %d %d, not %d", b, v, n, e, want)
	}
	if !bytes.Equal(b, was) {
		t.Errorf("%v is now %v", was, b)
	}
}

func TestTakeIsKeysBack(t *testing.T) {
	for _, v := range rising() {
		key := Key(nil, v)
		for _, behind := range [][]byte{nil, {0}, {1}, {2, 97, 0}, {31}, {255, 255}, bytes.Repeat([]byte{97}, 100)} {
			got, n, e := Take(append(slices.Clone(key), behind...))
			if got != v || n != len(key) || e != api.OK {
				t.Errorf("%v, then %v: %v %d %d", v, behind, got, n, e)
			}
		}
	}
}

func TestTakeCutOff(t *testing.T) {
	fails(t, nil, api.ErrShort)
	fails(t, []byte{}, api.ErrShort)
	for _, v := range rising() {
		key := Key(nil, v)
		for n := range len(key) {
			fails(t, key[:n:n], api.ErrShort)
			// The rest in the spare room is not there.
			fails(t, key[:n], api.ErrShort)
		}
	}
}

func TestTakeOfEachFirstByte(t *testing.T) {
	for c := 0; c <= 255; c++ {
		if c == 1 || c == 2 {
			fails(t, []byte{byte(c)}, api.ErrShort)
			continue
		}
		for _, behind := range [][]byte{nil, {0}, {97, 0}, {128, 0, 0, 0, 0, 0, 0, 0}} {
			fails(t, append([]byte{byte(c)}, behind...), api.ErrForm)
		}
	}
}

func TestTakeOfEachByteOfAText(t *testing.T) {
	for c := 1; c <= 255; c++ {
		for _, ahead := range []string{"", "a", full[1:]} {
			cut := append(append([]byte{2}, ahead...), byte(c))
			ended := append(slices.Clone(cut), 0)
			if c < 32 || c > 126 {
				// The end is missing, but the byte is met first.
				fails(t, cut, api.ErrForm)
				fails(t, ended, api.ErrForm)
				fails(t, append(cut, "abc"...), api.ErrForm)
				continue
			}
			fails(t, cut, api.ErrShort)
			if v, n, e := Take(ended); v != text(ahead+string(rune(c))) || n != len(ended) || e != api.OK {
				t.Errorf("%v: %v %d %d", ended, v, n, e)
			}
		}
	}
}

func TestTakeOfTooLongTexts(t *testing.T) {
	long := append([]byte{2}, full...)
	fails(t, long, api.ErrShort)
	for c := 1; c <= 255; c++ {
		fails(t, append(slices.Clone(long), byte(c)), api.ErrForm)
		fails(t, append(slices.Clone(long), byte(c), 0), api.ErrForm)
	}
	fails(t, append([]byte{2}, strings.Repeat("x", 1000)...), api.ErrForm)
	if v, n, e := Take(append(slices.Clone(long), 0)); v != text(full) || n != api.MaxLetter+2 || e != api.OK {
		t.Errorf("a full text: %v %d %d", v, n, e)
	}
	// The end stands in the place of one byte too many.
	if v, n, e := Take(append(slices.Clone(long), 0, 'x')); v != text(full) || n != api.MaxLetter+2 || e != api.OK {
		t.Errorf("a full text, and a byte behind it: %v %d %d", v, n, e)
	}
}

func TestTakeSharesNothing(t *testing.T) {
	b := Key(nil, text("a b"))
	v, _, _ := Take(b)
	for i := range b {
		b[i] = 'z'
	}
	if v != text("a b") {
		t.Errorf("the text went with its bytes: %v", v)
	}
}

// What Take answers may be, and its key is just the bytes that it took.
func FuzzTake(f *testing.F) {
	for _, v := range rising() {
		f.Add(Key(nil, v))
	}
	f.Add([]byte{2, 31, 0})
	f.Add([]byte{3})
	f.Fuzz(func(t *testing.T, b []byte) {
		v, n, e := Take(b)
		if e != api.OK {
			fails(t, b, e)
			if e != api.ErrShort && e != api.ErrForm {
				t.Errorf("%v: %d", b, e)
			}
			return
		}
		if !May(v) || n > len(b) || !bytes.Equal(Key(nil, v), b[:n]) {
			t.Errorf("%v: %v %d", b, v, n)
		}
	})
}
