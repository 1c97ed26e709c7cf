package lex

import (
	"math/big"
	"regexp"
	"slices"
	"strings"
	"testing"

	"quarantine/api"
)

// The forms of words, as the document has them.
var (
	nameForm   = regexp.MustCompile(`^[a-z_][a-z0-9_]*`)
	numberForm = regexp.MustCompile(`^[0-9]+`)
	openForm   = regexp.MustCompile(`^'(''|[ -&(-~])*`)
	signForm   = regexp.MustCompile(`^(<>|<=|>=|[(),.=<>+*-])`)
)

// plain tells what Lex does, by the forms of words.
func plain(s string) (l []api.Token, at int, e api.Errno) {
	if len(s) > api.MaxText {
		return nil, 0, api.ErrLong
	}
	for at < len(s) {
		rest := s[at:]
		if rest[0] == ' ' {
			at++
			continue
		}
		t, size, fault, e := plainWord(rest)
		if e != api.OK {
			return nil, at + fault, e
		}
		t.At = at
		l = append(l, t)
		at += size
	}
	return append(l, api.Token{Kind: api.TokEnd, At: len(s)}), 0, api.OK
}

// plainWord tells the word at the beginning of s and its bytes, or where a fault is.
func plainWord(s string) (t api.Token, size, fault int, e api.Errno) {
	if w := nameForm.FindString(s); w != "" {
		switch {
		case len(w) > api.MaxName:
			return t, 0, 0, api.ErrLong
		case slices.Contains(words, w):
			return api.Token{Kind: api.TokWord, Text: w}, len(w), 0, api.OK
		}
		return api.Token{Kind: api.TokName, Text: w}, len(w), 0, api.OK
	}
	if w := numberForm.FindString(s); w != "" {
		n, _ := new(big.Int).SetString(w, 10)
		switch {
		case nameForm.MatchString(s[len(w):]):
			return t, 0, len(w), api.ErrLex
		case !n.IsInt64():
			return t, 0, 0, api.ErrOverflow
		}
		return api.Token{Kind: api.TokNumber, Int: n.Int64()}, len(w), 0, api.OK
	}
	if w := openForm.FindString(s); w != "" {
		text := strings.ReplaceAll(w[1:], "''", "'")
		switch {
		case !strings.HasPrefix(s[len(w):], "'"):
			return t, 0, len(w), api.ErrLex
		case len(text) > api.MaxLetter:
			return t, 0, 0, api.ErrLong
		}
		return api.Token{Kind: api.TokText, Text: text}, len(w) + 1, 0, api.OK
	}
	if w := signForm.FindString(s); w != "" {
		return api.Token{Kind: api.TokSign, Text: w}, len(w), 0, api.OK
	}
	return t, 0, 0, api.ErrLex
}

func same(t *testing.T, s string) {
	t.Helper()
	l, at, e := Lex(s)
	wantL, wantAt, wantE := plain(s)
	if !slices.Equal(l, wantL) || (l == nil) != (wantL == nil) || at != wantAt || e != wantE {
		t.Fatalf("Lex(%q) is %v, %d, %d, not %v, %d, %d", s, l, at, e, wantL, wantAt, wantE)
	}
}

// P6.1: all short texts of bytes that meet in different ways
func TestAllShortTexts(t *testing.T) {
	const letters = " a_1'<>=.A\x1f"
	all := []string{""}
	for range 5 {
		var longer []string
		for _, s := range all {
			same(t, s)
			for i := range len(letters) {
				longer = append(longer, s+letters[i:i+1])
			}
		}
		all = longer
	}
	for _, s := range all {
		same(t, s)
	}
}

// P6.1: all rows of three pieces, each whole, broken or too long
func TestAllRowsOfPieces(t *testing.T) {
	pieces := []string{
		"", " ", "a", "as", "_9", strings.Repeat("m", api.MaxName), strings.Repeat("m", api.MaxName+1), "min", "9", "00",
		"9223372036854775807", "9223372036854775808", "99999999999999999999", "'", "''", "'a'", "'a", "a'", "'''", "'~ ''",
		strings.Repeat("t", api.MaxLetter), "'" + strings.Repeat("t", api.MaxLetter) + "'", "'" + strings.Repeat("''", api.MaxLetter+1) + "'",
		"<", ">", "=", "-", "(", "*", ";", "Z", "\x00", "\x7f", "\xff", "\n", strings.Repeat(" ", api.MaxText-40),
	}
	for _, a := range pieces {
		for _, b := range pieces {
			for _, c := range pieces {
				same(t, a+b+c)
			}
		}
	}
}

// P6.1, R1: whatever is handed in
func FuzzLex(f *testing.F) {
	for _, s := range []string{"", "a<=1", "1a", " 'it''s' ", "'", "select * from t where a = 'x'", "99999999999999999999"} {
		f.Add(s)
	}
	f.Fuzz(func(t *testing.T, s string) { same(t, s) })
}
