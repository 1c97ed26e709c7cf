package num

import (
	"math"
	"math/big"
	"strconv"
	"strings"
	"testing"

	"quarantine/api"
)

const high, low = math.MaxInt64, math.MinInt64

// edges are numbers at whose meetings sums, differences and products come to just what fits, or just run over.
func edges() []int64 {
	all := []int64{low, low + 1, low + 2, high, high - 1, high - 2}
	for n := int64(-12); n <= 12; n++ {
		all = append(all, n)
	}
	for shift := 4; shift < 63; shift++ {
		for near := int64(-1); near <= 1; near++ {
			all = append(all, 1<<shift+near, -(1<<shift)+near)
		}
	}
	for _, part := range []int64{3, 5, 7, 10, 49, 73, 127, 337, 92737, 649657, 3037000499, 3037000500} {
		for near := int64(-1); near <= 1; near++ {
			all = append(all, high/part+near, low/part+near, part+near, -part+near)
		}
	}
	return all
}

// check holds an answer against what numbers without bounds come to.
func check(t *testing.T, name string, a, b, got int64, e api.Errno, want *big.Int) {
	t.Helper()
	if !want.IsInt64() {
		if got != 0 || e != api.ErrOverflow {
			t.Errorf("%s of %d and %d is %d, %d, and runs over: %d", name, a, b, got, e, want)
		}
	} else if got != want.Int64() || e != api.OK {
		t.Errorf("%s of %d and %d is %d, %d, not %d", name, a, b, got, e, want)
	}
}

// P3.1: ordinary numbers and the edges
func TestNumbers(t *testing.T) {
	for _, x := range []struct {
		name string
		of   func(a, b int64) (int64, api.Errno)
		a, b int64
		want int64
		e    api.Errno
	}{
		{"Add", Add, 2, 3, 5, api.OK},
		{"Add", Add, 2, -3, -1, api.OK},
		{"Add", Add, 0, 0, 0, api.OK},
		{"Add", Add, high, 0, high, api.OK},
		{"Add", Add, 0, low, low, api.OK},
		{"Add", Add, high - 1, 1, high, api.OK},
		{"Add", Add, low + 1, -1, low, api.OK},
		{"Add", Add, high, low, -1, api.OK},
		{"Add", Add, high, 1, 0, api.ErrOverflow},
		{"Add", Add, 1, high, 0, api.ErrOverflow},
		{"Add", Add, high, high, 0, api.ErrOverflow},
		{"Add", Add, low, -1, 0, api.ErrOverflow},
		{"Add", Add, -1, low, 0, api.ErrOverflow},
		{"Add", Add, low, low, 0, api.ErrOverflow},
		{"Sub", Sub, 5, 7, -2, api.OK},
		{"Sub", Sub, 5, -7, 12, api.OK},
		{"Sub", Sub, 0, 0, 0, api.OK},
		{"Sub", Sub, low, 0, low, api.OK},
		{"Sub", Sub, low + 1, 1, low, api.OK},
		{"Sub", Sub, high - 1, -1, high, api.OK},
		{"Sub", Sub, -1, high, low, api.OK},
		{"Sub", Sub, -1, low, high, api.OK},
		{"Sub", Sub, low, low, 0, api.OK},
		{"Sub", Sub, high, high, 0, api.OK},
		{"Sub", Sub, 0, low, 0, api.ErrOverflow},
		{"Sub", Sub, low, 1, 0, api.ErrOverflow},
		{"Sub", Sub, high, -1, 0, api.ErrOverflow},
		{"Sub", Sub, -2, high, 0, api.ErrOverflow},
		{"Sub", Sub, high, low, 0, api.ErrOverflow},
		{"Sub", Sub, low, high, 0, api.ErrOverflow},
		{"Mul", Mul, 6, 7, 42, api.OK},
		{"Mul", Mul, -3, 7, -21, api.OK},
		{"Mul", Mul, -3, -7, 21, api.OK},
		{"Mul", Mul, 0, low, 0, api.OK},
		{"Mul", Mul, low, 0, 0, api.OK},
		{"Mul", Mul, 0, -1, 0, api.OK},
		{"Mul", Mul, 1, low, low, api.OK},
		{"Mul", Mul, low, 1, low, api.OK},
		{"Mul", Mul, high, -1, -high, api.OK},
		{"Mul", Mul, -1, high, -high, api.OK},
		{"Mul", Mul, 1 << 32, -(1 << 31), low, api.OK},
		{"Mul", Mul, -(1 << 31), 1 << 32, low, api.OK},
		{"Mul", Mul, 7, high / 7, high, api.OK},
		{"Mul", Mul, low, -1, 0, api.ErrOverflow},
		{"Mul", Mul, -1, low, 0, api.ErrOverflow},
		{"Mul", Mul, 1 << 32, 1 << 31, 0, api.ErrOverflow},
		{"Mul", Mul, -(1 << 32), -(1 << 31), 0, api.ErrOverflow},
		{"Mul", Mul, 1 << 32, 1 << 32, 0, api.ErrOverflow},
		{"Mul", Mul, low, 2, 0, api.ErrOverflow},
		{"Mul", Mul, high, 2, 0, api.ErrOverflow},
		{"Mul", Mul, low, low, 0, api.ErrOverflow},
		{"Mul", Mul, high, high, 0, api.ErrOverflow},
		{"Mul", Mul, high, low, 0, api.ErrOverflow},
	} {
		if n, e := x.of(x.a, x.b); n != x.want || e != x.e {
			t.Errorf("%s(%d, %d) is %d, %d, not %d, %d", x.name, x.a, x.b, n, e, x.want, x.e)
		}
	}
}

// P3.1 Neg
func TestNeg(t *testing.T) {
	for _, x := range []struct {
		a, want int64
		e       api.Errno
	}{
		{0, 0, api.OK},
		{1, -1, api.OK},
		{-1, 1, api.OK},
		{high, -high, api.OK},
		{-high, high, api.OK},
		{low, 0, api.ErrOverflow},
	} {
		if n, e := Neg(x.a); n != x.want || e != x.e {
			t.Errorf("Neg(%d) is %d, %d, not %d, %d", x.a, n, e, x.want, x.e)
		}
	}
}

// P3.1: all pairs of edges, held against numbers without bounds
func TestAgainstNumbersWithoutBounds(t *testing.T) {
	for _, a := range edges() {
		one := big.NewInt(a)
		n, e := Neg(a)
		check(t, "Neg", a, 0, n, e, new(big.Int).Neg(one))
		for _, b := range edges() {
			other := big.NewInt(b)
			n, e = Add(a, b)
			check(t, "Add", a, b, n, e, new(big.Int).Add(one, other))
			n, e = Sub(a, b)
			check(t, "Sub", a, b, n, e, new(big.Int).Sub(one, other))
			n, e = Mul(a, b)
			check(t, "Mul", a, b, n, e, new(big.Int).Mul(one, other))
		}
	}
}

// P3.1: one rule holds for every kind of whole numbers, and of the least kind all pairs can be gone through.
func TestAllPairsOfTheLeastKind(t *testing.T) {
	same := func(name string, a, b int, got int8, e api.Errno, want int) {
		t.Helper()
		wanted := api.OK
		if want < math.MinInt8 || want > math.MaxInt8 {
			want, wanted = 0, api.ErrOverflow
		}
		if int(got) != want || e != wanted {
			t.Fatalf("%s of %d and %d is %d, %d, not %d, %d", name, a, b, got, e, want, wanted)
		}
	}
	for a := math.MinInt8; a <= math.MaxInt8; a++ {
		n, e := neg(int8(a))
		same("neg", a, 0, n, e, -a)
		for b := math.MinInt8; b <= math.MaxInt8; b++ {
			n, e = add(int8(a), int8(b))
			same("add", a, b, n, e, a+b)
			n, e = sub(int8(a), int8(b))
			same("sub", a, b, n, e, a-b)
			n, e = mul(int8(a), int8(b))
			same("mul", a, b, n, e, a*b)
		}
	}
}

// P3.2 Parse
func TestParse(t *testing.T) {
	for _, x := range []struct {
		s    string
		want int64
	}{
		{"0", 0},
		{"7", 7},
		{"9", 9},
		{"10", 10},
		{"1234567890", 1234567890},
		{"9223372036854775799", high - 8},
		{"9223372036854775806", high - 1},
		{"9223372036854775807", high},
		{"00", 0},
		{"007", 7},
		{"00009223372036854775807", high},
		{strings.Repeat("0", 100000), 0},
		{strings.Repeat("0", 100000) + "42", 42},
	} {
		if n, e := Parse(x.s); n != x.want || e != api.OK {
			t.Errorf("Parse(%.40q) is %d, %d, not %d", x.s, n, e, x.want)
		}
	}
}

// P3.2 Parse: what is no number, and what runs over
func TestParseWrong(t *testing.T) {
	const over = "99999999999999999999"
	for _, x := range []struct {
		s    string
		want api.Errno
	}{
		{"", api.ErrForm},
		{"-", api.ErrForm},
		{"-1", api.ErrForm},
		{"+1", api.ErrForm},
		{"1-", api.ErrForm},
		{" 1", api.ErrForm},
		{"1 ", api.ErrForm},
		{"1 2", api.ErrForm},
		{"1_000", api.ErrForm},
		{"1.5", api.ErrForm},
		{"0x1f", api.ErrForm},
		{"1e3", api.ErrForm},
		{"a", api.ErrForm},
		{"1a", api.ErrForm},
		{"a1", api.ErrForm},
		{"1/", api.ErrForm},
		{"1:", api.ErrForm},
		{"1\x00", api.ErrForm},
		{"1\n", api.ErrForm},
		{"\xff", api.ErrForm},
		{"1\xb0", api.ErrForm},
		// Digits, but of other bytes than 0-9.
		{"\u0663", api.ErrForm},
		{"\uff11", api.ErrForm},
		// A byte that is no digit is told ahead of what runs over.
		{over + "x", api.ErrForm},
		{"x" + over, api.ErrForm},
		{over + "x" + over, api.ErrForm},
		{"-" + over, api.ErrForm},
		{"9223372036854775808-", api.ErrForm},
		{strings.Repeat("9", 100000) + " ", api.ErrForm},
		{"9223372036854775808", api.ErrOverflow},
		{"9223372036854775809", api.ErrOverflow},
		{"9223372036854775810", api.ErrOverflow},
		{"0009223372036854775808", api.ErrOverflow},
		{"18446744073709551615", api.ErrOverflow},
		// These wrap round to small numbers.
		{"18446744073709551616", api.ErrOverflow},
		{"18446744073709551617", api.ErrOverflow},
		{"36893488147419103232", api.ErrOverflow},
		{"184467440737095516160", api.ErrOverflow},
		{over, api.ErrOverflow},
		{"1" + strings.Repeat("0", 19), api.ErrOverflow},
		{"1" + strings.Repeat("0", 64), api.ErrOverflow},
		{strings.Repeat("9", 100000), api.ErrOverflow},
	} {
		if n, e := Parse(x.s); n != 0 || e != x.want {
			t.Errorf("Parse(%.40q) is %d, %d, not %d", x.s, n, e, x.want)
		}
	}
}

// P3.2 Parse: every byte, alone, ahead of a digit and behind one
func TestParseEveryByte(t *testing.T) {
	for b := range 256 {
		c := string([]byte{byte(b)})
		for _, s := range []string{c, c + "5", "5" + c} {
			want, wanted := int64(0), api.ErrForm
			if strings.Contains("0123456789", c) {
				n, err := strconv.Atoi(s)
				if err != nil {
					t.Fatal(err)
				}
				want, wanted = int64(n), api.OK
			}
			if n, e := Parse(s); n != want || e != wanted {
				t.Errorf("Parse(%q) is %d, %d, not %d, %d", s, n, e, want, wanted)
			}
		}
	}
}

// P3.2 Parse: of the least kind, to where it runs over and beyond
func TestParseOfTheLeastKind(t *testing.T) {
	for n := range 30000 {
		want, wanted := int8(0), api.ErrOverflow
		if n <= math.MaxInt8 {
			want, wanted = int8(n), api.OK
		}
		for _, ahead := range []string{"", "0", "000"} {
			s := ahead + strconv.Itoa(n)
			if got, e := parse[int8](s); got != want || e != wanted {
				t.Fatalf("parse(%q) is %d, %d, not %d, %d", s, got, e, want, wanted)
			}
		}
	}
}

// P3.2 Show
func TestShow(t *testing.T) {
	for _, x := range []struct {
		a    int64
		want string
	}{
		{0, "0"},
		{1, "1"},
		{-1, "-1"},
		{9, "9"},
		{10, "10"},
		{-10, "-10"},
		{70, "70"},
		{-70, "-70"},
		{99, "99"},
		{100, "100"},
		{-1002003, "-1002003"},
		{high, "9223372036854775807"},
		{-high, "-9223372036854775807"},
		{low, "-9223372036854775808"},
	} {
		if s := Show(x.a); s != x.want {
			t.Errorf("Show(%d) is %q", x.a, s)
		}
	}
}

// P3.2: what is shown parses back, behind its sign
func TestWhatIsShownParsesBack(t *testing.T) {
	for _, a := range edges() {
		s := Show(a)
		if s != big.NewInt(a).String() {
			t.Errorf("Show(%d) is %q", a, s)
		}
		rest, below := strings.CutPrefix(s, "-")
		n, e := Parse(rest)
		switch {
		case below != (a < 0):
			t.Errorf("Show(%d) is %q", a, s)
		case a == low:
			if n != 0 || e != api.ErrOverflow {
				t.Errorf("Parse(%q) is %d, %d", rest, n, e)
			}
		case below:
			n = -n
			fallthrough
		default:
			if n != a || e != api.OK {
				t.Errorf("Parse(%q) is %d, %d", rest, n, e)
			}
		}
	}
}
