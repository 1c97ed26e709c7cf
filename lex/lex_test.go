package lex

import (
	"math"
	"slices"
	"strconv"
	"strings"
	"testing"
	"unsafe"

	"quarantine/api"
)

// words are those of the document that are no names.
var words = strings.Fields("and as begin by call closure commit count create delete desc from group index insert int into join max min not on or order raise ref rollback select set strip sum table text update values view where")

// signs are those of the document.
var signs = strings.Fields("( ) , . = < > + - * <> <= >=")

func name(s string, at int) api.Token { return api.Token{Kind: api.TokName, Text: s, At: at} }

func word(s string, at int) api.Token { return api.Token{Kind: api.TokWord, Text: s, At: at} }

func number(n int64, at int) api.Token { return api.Token{Kind: api.TokNumber, Int: n, At: at} }

func quoted(s string, at int) api.Token { return api.Token{Kind: api.TokText, Text: s, At: at} }

func sign(s string, at int) api.Token { return api.Token{Kind: api.TokSign, Text: s, At: at} }

func end(at int) api.Token { return api.Token{Kind: api.TokEnd, At: at} }

// good asks for these words, and for the end behind them.
func good(t *testing.T, s string, want ...api.Token) {
	t.Helper()
	want = append(want, end(len(s)))
	l, at, e := Lex(s)
	if !slices.Equal(l, want) || at != 0 || e != api.OK {
		t.Errorf("Lex(%q) is %v, %d, %d, not %v", s, l, at, e, want)
	}
}

// bad asks for this error at this place, and for no word.
func bad(t *testing.T, s string, place int, want api.Errno) {
	t.Helper()
	if l, at, e := Lex(s); l != nil || at != place || e != want {
		t.Errorf("Lex(%q) is %v, %d, %d, not nil, %d, %d", s, l, at, e, place, want)
	}
}

// P6.1: words of each kind

func TestWordsOfEachKind(t *testing.T) {
	good(t, "a<=1", name("a", 0), sign("<=", 1), number(1, 3))
	good(t, " select a_1<=007 'it''s' <>(.x ",
		word("select", 1), name("a_1", 8), sign("<=", 11), number(7, 13), quoted("it's", 17), sign("<>", 25), sign("(", 27), sign(".", 28), name("x", 29))
	good(t, "insert into t values (12, 'x y', -3)",
		word("insert", 0), word("into", 7), name("t", 12), word("values", 14), sign("(", 21), number(12, 22), sign(",", 24),
		quoted("x y", 26), sign(",", 31), sign("-", 33), number(3, 34), sign(")", 35))
	good(t, "select count(*) from a join b on a.k=b.k where not a.n>=2*n1+1 order by k desc",
		word("select", 0), word("count", 7), sign("(", 12), sign("*", 13), sign(")", 14), word("from", 16), name("a", 21),
		word("join", 23), name("b", 28), word("on", 30), name("a", 33), sign(".", 34), name("k", 35), sign("=", 36),
		name("b", 37), sign(".", 38), name("k", 39), word("where", 41), word("not", 47), name("a", 51), sign(".", 52),
		name("n", 53), sign(">=", 54), number(2, 56), sign("*", 57), name("n1", 58), sign("+", 60), number(1, 61),
		word("order", 63), word("by", 69), name("k", 72), word("desc", 74))
}

func TestNoWord(t *testing.T) {
	good(t, "")
	for n := range api.MaxText + 1 {
		good(t, strings.Repeat(" ", n))
	}
}

func TestSpaces(t *testing.T) {
	good(t, "a", name("a", 0))
	good(t, "a   ", name("a", 0))
	good(t, "   a", name("a", 3))
	good(t, "a b", name("a", 0), name("b", 2))
	good(t, "  a    b  ", name("a", 2), name("b", 7))
	good(t, "1 2", number(1, 0), number(2, 2))
	good(t, "1 a", number(1, 0), name("a", 2))
	good(t, "< =", sign("<", 0), sign("=", 2))
	good(t, "< >", sign("<", 0), sign(">", 2))
	good(t, "> =", sign(">", 0), sign("=", 2))
	good(t, "'a' 'b'", quoted("a", 0), quoted("b", 4))
	good(t, "' a  b '", quoted(" a  b ", 0))
}

func TestWordsWithoutSpaces(t *testing.T) {
	good(t, "a'b'", name("a", 0), quoted("b", 1))
	good(t, "'a'b", quoted("a", 0), name("b", 3))
	good(t, "'a'1", quoted("a", 0), number(1, 3))
	good(t, "1'a'", number(1, 0), quoted("a", 1))
	good(t, "''and''", quoted("", 0), word("and", 2), quoted("", 5))
	good(t, "(1)", sign("(", 0), number(1, 1), sign(")", 2))
	good(t, "1.5", number(1, 0), sign(".", 1), number(5, 2))
	good(t, "-1", sign("-", 0), number(1, 1))
	good(t, "a-1", name("a", 0), sign("-", 1), number(1, 2))
	good(t, "a1", name("a1", 0))
}

// P6.1: names, and words that are none

func TestNames(t *testing.T) {
	for _, s := range []string{"a", "z", "_", "__", "_1", "a0", "z9", "a_b", "abcdefghijklmno", "zyxwvutsrqponmlk", "_0123456789_abcd"} {
		good(t, s, name(s, 0))
		good(t, "  "+s+"(", name(s, 2), sign("(", 2+len(s)))
	}
}

func TestWordsThatAreNoNames(t *testing.T) {
	for _, s := range words {
		good(t, s, word(s, 0))
		good(t, " "+s+"=", word(s, 1), sign("=", 1+len(s)))
		good(t, s+" "+s, word(s, 0), word(s, len(s)+1))
		for _, more := range []string{s + "x", "x" + s, s + "_", "_" + s, s + "0", s + s, s + "_" + s} {
			if slices.Contains(words, more) {
				t.Fatalf("%q is no name either", more)
			}
			if len(more) <= api.MaxName {
				good(t, more, name(more, 0))
			}
		}
		if less := s[:len(s)-1]; !slices.Contains(words, less) {
			good(t, less, name(less, 0))
		}
		bad(t, strings.ToUpper(s), 0, api.ErrLex)
		good(t, "'"+s+"'", quoted(s, 0))
	}
	for _, s := range []string{"having", "null", "true", "false", "avg", "bool", "distinct", "asc", "limit", "key", "tag", "label"} {
		good(t, s, name(s, 0))
	}
}

func TestLengthOfNames(t *testing.T) {
	for n := 1; n <= api.MaxText; n++ {
		for _, s := range []string{strings.Repeat("x", n), "_" + strings.Repeat("7", n-1)} {
			if n <= api.MaxName {
				good(t, s, name(s, 0))
			} else {
				bad(t, s, 0, api.ErrLong)
			}
		}
	}
	full := strings.Repeat("n", api.MaxName)
	good(t, full+" "+full, name(full, 0), name(full, api.MaxName+1))
	bad(t, full+" "+full+"n", api.MaxName+1, api.ErrLong)
	bad(t, "1 'a'<"+full+"n", 6, api.ErrLong)
	// A word that is no name, and then more of it, is a name like others.
	bad(t, "select_from_where", 0, api.ErrLong)
}

// P6.1: signs

func TestSigns(t *testing.T) {
	for _, s := range signs {
		good(t, s, sign(s, 0))
		good(t, "  "+s+" ", sign(s, 2))
		good(t, "a"+s+"1", name("a", 0), sign(s, 1), number(1, 1+len(s)))
		good(t, "'a'"+s+"'b'", quoted("a", 0), sign(s, 3), quoted("b", 3+len(s)))
		good(t, "'"+s+"'", quoted(s, 0))
	}
}

func TestTwoSigns(t *testing.T) {
	for _, a := range signs {
		for _, b := range signs {
			good(t, a+" "+b, sign(a, 0), sign(b, len(a)+1))
			switch {
			// Of these the longest takes the second's first byte.
			case slices.Contains(signs, a+b):
				good(t, a+b, sign(a+b, 0))
			case a == "<" && b == ">=":
				good(t, a+b, sign("<>", 0), sign("=", 2))
			default:
				good(t, a+b, sign(a, 0), sign(b, len(a)))
			}
		}
	}
}

func TestTheLongestSign(t *testing.T) {
	good(t, "<>", sign("<>", 0))
	good(t, "<=", sign("<=", 0))
	good(t, ">=", sign(">=", 0))
	good(t, "><", sign(">", 0), sign("<", 1))
	good(t, "=<", sign("=", 0), sign("<", 1))
	good(t, "=>", sign("=", 0), sign(">", 1))
	good(t, "==", sign("=", 0), sign("=", 1))
	good(t, "<<", sign("<", 0), sign("<", 1))
	good(t, ">>", sign(">", 0), sign(">", 1))
	good(t, "<>=", sign("<>", 0), sign("=", 2))
	good(t, "<=>", sign("<=", 0), sign(">", 2))
	good(t, "<<=", sign("<", 0), sign("<=", 1))
	good(t, ">>=", sign(">", 0), sign(">=", 1))
	good(t, "<>>=", sign("<>", 0), sign(">=", 2))
	good(t, "<><", sign("<>", 0), sign("<", 2))
	good(t, ">=<", sign(">=", 0), sign("<", 2))
	good(t, "--", sign("-", 0), sign("-", 1))
	bad(t, "!=", 0, api.ErrLex)
	bad(t, "<!", 1, api.ErrLex)
}

// P6.1: numbers

func TestNumbers(t *testing.T) {
	for _, x := range []struct {
		s string
		n int64
	}{
		{"0", 0},
		{"00", 0},
		{"7", 7},
		{"007", 7},
		{"9876543210", 9876543210},
		{"9223372036854775806", math.MaxInt64 - 1},
		{"9223372036854775807", math.MaxInt64},
		{"0009223372036854775807", math.MaxInt64},
		{strings.Repeat("0", api.MaxText), 0},
		{strings.Repeat("0", api.MaxText-19) + "9223372036854775807", math.MaxInt64},
	} {
		good(t, x.s, number(x.n, 0))
		if len(x.s) < api.MaxText-4 {
			good(t, " ("+x.s+") ", sign("(", 1), number(x.n, 2), sign(")", 2+len(x.s)))
		}
	}
}

func TestNumbersThatRunOver(t *testing.T) {
	for _, s := range []string{
		"9223372036854775808", "9223372036854775810", "0009223372036854775808", "10000000000000000000",
		"18446744073709551615", "18446744073709551616", "18446744073709551617", "99999999999999999999",
		strings.Repeat("9", 100), strings.Repeat("0", 300) + "9223372036854775808",
	} {
		bad(t, s, 0, api.ErrOverflow)
		bad(t, "a = "+s+" ", 4, api.ErrOverflow)
		// A minus is a sign of its own: it does not reach into the number.
		bad(t, "-"+s, 1, api.ErrOverflow)
	}
	bad(t, strings.Repeat("9", api.MaxText), 0, api.ErrOverflow)
}

func TestALetterBehindANumber(t *testing.T) {
	over := "99999999999999999999"
	for _, n := range []string{"0", "1", "007", "9223372036854775807", "9223372036854775808", over} {
		for _, c := range "abcdefghijklmnopqrstuvwxyz_" {
			bad(t, n+string(c), len(n), api.ErrLex)
			bad(t, "a<"+n+string(c)+"1 b", 2+len(n), api.ErrLex)
		}
	}
	bad(t, "1and 2", 1, api.ErrLex)
	bad(t, "0x1f", 1, api.ErrLex)
	bad(t, "1_000", 1, api.ErrLex)
	bad(t, "1"+strings.Repeat("a", api.MaxName+1), 1, api.ErrLex)
	// With a space between, the number is told.
	bad(t, over+" a", 0, api.ErrOverflow)
}

// P6.1: text values

func TestTexts(t *testing.T) {
	for _, x := range []struct{ s, want string }{
		{"''", ""},
		{"'a'", "a"},
		{"' '", " "},
		{"'~'", "~"},
		{"''''", "'"},
		{"''''''", "''"},
		{"'it''s'", "it's"},
		{"'''a'", "'a"},
		{"'a'''", "a'"},
		{"'a''''b'", "a''b"},
		{"'A;\"\\!'", "A;\"\\!"},
		{"'a<=1 select'", "a<=1 select"},
	} {
		good(t, x.s, quoted(x.want, 0))
		good(t, " "+x.s+" "+x.s+",", quoted(x.want, 1), quoted(x.want, 2+len(x.s)), sign(",", 2+2*len(x.s)))
	}
}

func TestLengthOfTexts(t *testing.T) {
	for n := range 3 * api.MaxLetter {
		for _, c := range []string{"x", " ", "~", "'"} {
			want := strings.Repeat(c, n)
			s := "'" + strings.ReplaceAll(want, "'", "''") + "'"
			if n <= api.MaxLetter {
				good(t, s, quoted(want, 0))
				good(t, "a "+s, name("a", 0), quoted(want, 2))
			} else {
				bad(t, s, 0, api.ErrLong)
				bad(t, "a "+s, 2, api.ErrLong)
			}
		}
	}
	// One mark alone among as many bytes as may be, at each place; and with one byte more.
	for at := range api.MaxLetter {
		ahead, behind := strings.Repeat("x", at), strings.Repeat("y", api.MaxLetter-1-at)
		good(t, "'"+ahead+"''"+behind+"'", quoted(ahead+"'"+behind, 0))
		bad(t, "1 '"+ahead+"''"+behind+"z'", 2, api.ErrLong)
	}
	bad(t, "'"+strings.Repeat("x", api.MaxText-2)+"'", 0, api.ErrLong)
}

func TestTextsThatDoNotEnd(t *testing.T) {
	for _, s := range []string{"'", "'a", "'ab", "' ", "'''", "'a''", "'''''", "'''a", "'a''b", "'it''s ", "'" + strings.Repeat("x", api.MaxLetter+1), "'" + strings.Repeat("x", api.MaxText-1), "'" + strings.Repeat("''", api.MaxLetter+1)} {
		bad(t, s, len(s), api.ErrLex)
		if len(s) < api.MaxText-9 {
			bad(t, "a 1 'b' "+s, 8+len(s), api.ErrLex)
		}
	}
}

// P6.1: every byte, at the places where a word may begin or go on

// ahead tells what c at the beginning of " b" reads as: a word of its own, or none.
func ahead(c byte) (t api.Token, ok bool) {
	s := string([]byte{c})
	switch {
	case 'a' <= c && c <= 'z' || c == '_':
		return name(s, 0), true
	case '0' <= c && c <= '9':
		return number(int64(c-'0'), 0), true
	case slices.Contains(signs, s):
		return sign(s, 0), true
	}
	return api.Token{}, false
}

// moved tells t, so many bytes further on.
func moved(t api.Token, by int) api.Token {
	t.At += by
	return t
}

func TestEveryByteAtTheBeginning(t *testing.T) {
	for b := range 256 {
		c := string([]byte{byte(b)})
		first, ok := ahead(byte(b))
		switch {
		case ok:
			good(t, c, first)
			good(t, "  "+c+" b", moved(first, 2), name("b", 4))
		case c == " ":
			good(t, c)
			good(t, "  "+c+" b", name("b", 4))
		case c == "'":
			bad(t, c, 1, api.ErrLex)
			bad(t, "  "+c+" b", 5, api.ErrLex)
		default:
			bad(t, c, 0, api.ErrLex)
			bad(t, "  "+c+" b", 2, api.ErrLex)
		}
	}
}

func TestEveryByteBehindAName(t *testing.T) {
	for b := range 256 {
		c := string([]byte{byte(b)})
		sole, ok := ahead(byte(b))
		switch {
		case ok && sole.Kind != api.TokSign:
			good(t, "ab"+c, name("ab"+c, 0))
			// What is no name, with a byte more, is one.
			if !slices.Contains(words, "in"+c) {
				good(t, "in"+c, name("in"+c, 0))
			}
			good(t, "select"+c, name("select"+c, 0))
		case ok:
			good(t, "ab"+c, name("ab", 0), moved(sole, 2))
			good(t, "select"+c, word("select", 0), moved(sole, 6))
		case c == " ":
			good(t, "ab"+c, name("ab", 0))
			good(t, "select"+c, word("select", 0))
		case c == "'":
			bad(t, "ab"+c, 3, api.ErrLex)
			good(t, "ab"+c+c, name("ab", 0), quoted("", 2))
		default:
			bad(t, "ab"+c, 2, api.ErrLex)
			bad(t, "select"+c, 6, api.ErrLex)
		}
	}
}

func TestEveryByteBehindANumber(t *testing.T) {
	for b := range 256 {
		c := string([]byte{byte(b)})
		sole, ok := ahead(byte(b))
		switch {
		case ok && sole.Kind == api.TokName:
			bad(t, "12"+c, 2, api.ErrLex)
		case ok && sole.Kind == api.TokNumber:
			good(t, "12"+c, number(120+sole.Int, 0))
		case ok:
			good(t, "12"+c, number(12, 0), moved(sole, 2))
		case c == " ":
			good(t, "12"+c, number(12, 0))
		case c == "'":
			bad(t, "12"+c, 3, api.ErrLex)
			good(t, "12"+c+c, number(12, 0), quoted("", 2))
		default:
			bad(t, "12"+c, 2, api.ErrLex)
		}
	}
}

func TestEveryByteWithinAText(t *testing.T) {
	for b := range 256 {
		c := string([]byte{byte(b)})
		switch {
		case c == "'":
			good(t, "'a"+c+"b", quoted("a", 0), name("b", 3))
			good(t, "'a"+c+c+"b'", quoted("a'b", 0))
		case 32 <= b && b <= 126:
			good(t, "'a"+c+"b'", quoted("a"+c+"b", 0))
			good(t, "'"+c+"'", quoted(c, 0))
			good(t, "'''"+c+"'''", quoted("'"+c+"'", 0))
		default:
			bad(t, "'"+c+"'", 1, api.ErrLex)
			bad(t, "'a"+c+"b'", 2, api.ErrLex)
			bad(t, "'a"+c, 2, api.ErrLex)
			bad(t, "'''"+c+"'", 3, api.ErrLex)
			// Behind the end it stands in no text: it begins no word.
			bad(t, "'a'"+c, 3, api.ErrLex)
		}
	}
}

// P6.1: a text that is too long is told ahead of all else

func TestLengthOfAll(t *testing.T) {
	full := strings.Repeat("a ", api.MaxText/2)
	var want []api.Token
	for at := 0; at < api.MaxText; at += 2 {
		want = append(want, name("a", at))
	}
	good(t, full, want...)
	good(t, full[1:]+"b", append(moveAll(want[1:], -1), name("b", api.MaxText-1))...)
	for _, s := range []string{
		full + " ", full + "b", strings.Repeat(" ", api.MaxText+1), strings.Repeat(" ", api.MaxText) + "a",
		strings.Repeat(";", api.MaxText+1), "A" + full, "'" + full, strings.Repeat("9", api.MaxText+1), "1a" + full,
		strings.Repeat("a", api.MaxText+1), strings.Repeat("\xff", 1<<20), strings.Repeat("'", 1<<20),
	} {
		if l, at, e := Lex(s); l != nil || at != 0 || e != api.ErrLong {
			t.Errorf("%d bytes, %.10q ..: %v, %d, %d", len(s), s, l, at, e)
		}
	}
	bad(t, full[:api.MaxText-1]+";", api.MaxText-1, api.ErrLex)
}

func moveAll(l []api.Token, by int) []api.Token {
	var out []api.Token
	for _, t := range l {
		out = append(out, moved(t, by))
	}
	return out
}

// P6.1: of several errors the first that is met

func TestWhichError(t *testing.T) {
	long := strings.Repeat("n", api.MaxName+1)
	over := "9223372036854775808"
	text := "'" + strings.Repeat("x", api.MaxLetter+1) + "'"
	// Each behind each: the first one's place and error.
	faults := []struct {
		s  string
		at int
		e  api.Errno
	}{
		{";", 0, api.ErrLex}, {"1a", 1, api.ErrLex}, {"'a\n'", 2, api.ErrLex}, {over + "z", 19, api.ErrLex},
		{long, 0, api.ErrLong}, {text, 0, api.ErrLong}, {over, 0, api.ErrOverflow},
	}
	for _, one := range faults {
		for _, other := range faults {
			bad(t, one.s+" "+other.s, one.at, one.e)
			bad(t, "b "+one.s+" '"+other.s, 2+one.at, one.e)
		}
	}
	// A name and a number are read whole where another byte stands, whatever it is.
	bad(t, long+";", 0, api.ErrLong)
	bad(t, long+"A", 0, api.ErrLong)
	bad(t, long+"'", 0, api.ErrLong)
	bad(t, over+";", 0, api.ErrOverflow)
	bad(t, over+"A", 0, api.ErrOverflow)
	bad(t, over+"'", 0, api.ErrOverflow)
	bad(t, over+"\x80", 0, api.ErrOverflow)
	bad(t, over+"a;", 19, api.ErrLex)
	// A text value is read whole behind its last mark.
	bad(t, text[:len(text)-1], len(text)-1, api.ErrLex)
	bad(t, text[:len(text)-1]+"\n'", len(text)-1, api.ErrLex)
	bad(t, text+"\n", 0, api.ErrLong)
	bad(t, text+"'", len(text)+1, api.ErrLex)
	// The first place is not what counts, but what is met first.
	bad(t, "a '"+long+" "+strings.Repeat("9", 20)+"\x7f'", 2+1+len(long)+1+20, api.ErrLex)
}

// R3: what is handed in stays as it was, and the answer shares nothing with it

func TestNothingIsShared(t *testing.T) {
	for _, s := range []string{"", "a", "select a from t where b<='it''s x' and c>=12 or d<>abcdefghijklmnop", "a 'b", "12x", strings.Repeat("<= ", 100)} {
		given := []byte(s)
		l, _, _ := Lex(unsafe.String(unsafe.SliceData(given), len(given)))
		if string(given) != s {
			t.Errorf("%q was made %q", s, given)
		}
		kept := slices.Clone(l)
		for i := range kept {
			kept[i].Text = strings.Clone(kept[i].Text)
		}
		for i := range given {
			given[i] = 'z'
		}
		if !slices.Equal(l, kept) {
			t.Errorf("%q: its words changed with it: %v, not %v", s, l, kept)
		}
	}
}

// R4: a call hangs on what it is handed alone

func TestTheSameAgain(t *testing.T) {
	const s = "update t set a=a+1 where b<>'x'"
	first, _, _ := Lex(s)
	for i := range first {
		first[i] = end(-1)
	}
	bad(t, "a;", 1, api.ErrLex)
	good(t, s, word("update", 0), name("t", 7), word("set", 9), name("a", 13), sign("=", 14), name("a", 15), sign("+", 16), number(1, 17),
		word("where", 19), name("b", 25), sign("<>", 26), quoted("x", 28))
}

// A number is the one that its digits say, wherever it stands.
func TestNumbersInARow(t *testing.T) {
	var s string
	var want []api.Token
	for n := range int64(100) {
		want = append(want, number(n*7, len(s)))
		s += strconv.FormatInt(n*7, 10) + ","
		want = append(want, sign(",", len(s)-1))
		if len(s) > api.MaxText-10 {
			break
		}
	}
	good(t, s, want...)
}
