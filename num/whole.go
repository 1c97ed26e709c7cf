package num

import "quarantine/api"

// whole is a kind of whole numbers below 0 and above: as many of each, but for the lowest, whose opposite there is not.
type whole interface {
	~int8 | ~int16 | ~int32 | ~int64
}

// fit tells n if it did not run over.
func fit[N whole](n N, fits bool) (N, api.Errno) {
	if !fits {
		return 0, api.ErrOverflow
	}
	return n, api.OK
}

// What runs over wraps round to the other side of a: a sum that fits is below a just if b is below 0.
func add[N whole](a, b N) (N, api.Errno) {
	return fit(a+b, (a+b < a) == (b < 0))
}

func sub[N whole](a, b N) (N, api.Errno) {
	return fit(a-b, (a-b < a) == (b > 0))
}

func neg[N whole](a N) (N, api.Errno) {
	return sub(0, a)
}

// A product that fits is the one that divides back to a. To divide by 0 is a panic, and to divide the lowest number by -1 wraps back to itself: these two go their own ways.
func mul[N whole](a, b N) (N, api.Errno) {
	switch b {
	case 0:
		return 0, api.OK
	case -1:
		return neg(a)
	}
	return fit(a*b, a*b/b == a)
}

// A byte that is no digit is told ahead of a number that runs over, wherever it stands: so all of s is gone through first.
func parse[N whole](s string) (N, api.Errno) {
	if !digits(s) {
		return 0, api.ErrForm
	}
	n, e := N(0), api.OK
	for i := 0; i < len(s) && e == api.OK; i++ {
		n, e = behind(n, N(s[i]-'0'))
	}
	return n, e
}

func digits(s string) bool {
	for i := range len(s) {
		if s[i] < '0' || s[i] > '9' {
			return false
		}
	}
	return s != ""
}

// behind tells the number whose digits are those of n and then this one.
func behind[N whole](n, digit N) (N, api.Errno) {
	n, e := mul(n, 10)
	if e != api.OK {
		return 0, e
	}
	return add(n, digit)
}
