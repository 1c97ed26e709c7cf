package parse_test

import (
	"strings"
	"testing"

	"quarantine/api"
)

// opener is what stands ahead of what is within it, up to the word that counts (at that place), and what closes it.
type opener struct {
	text  string
	at    int
	close string
}

var (
	bracket = opener{"(", 0, ")"}
	minus   = opener{"-", 0, ""}
	not     = opener{"not ", 0, ""}
)

// mixes are rows of openers, gone through again and again. Behind one that ends with "-" or "not" stands none with a sign that would not be within it.
func mixes() [][]opener {
	added, timed, compared := opener{"1+(", 2, ")"}, opener{"a*-", 2, ""}, opener{"1=(", 2, ")"}
	joined := opener{"b or(", 4, ")"}
	return [][]opener{
		{bracket}, {minus}, {not},
		{not, bracket}, {bracket, not}, {minus, bracket}, {bracket, minus},
		{not, minus, bracket}, {bracket, not, minus}, {not, not, minus, minus, bracket, bracket},
		{added}, {joined}, {compared}, {timed, bracket}, {bracket, added}, {joined, not, bracket}, {not, compared}, {minus, bracket, not, added},
	}
}

// nested tells n of these around a number, and where each word that counts stands.
func nested(n int, mix []opener) (open, whole string, places []int) {
	var close string
	for i := range n {
		o := mix[i%len(mix)]
		places = append(places, len(open)+o.at)
		open += o.text
		close = o.close + close
	}
	return open, open + "1" + close, places
}

// frame is a statement around the place of an expression.
type frame struct{ ahead, behind string }

func frames() []frame {
	return []frame{
		{"insert into t values (", ")"},
		{"insert into t values (", ", 2)"},
		{"insert into t values ((1), ", ")"},
		{"update t set a = ", ""},
		{"update t set a = ", " where (b)"},
		{"update t set a = -1 where ", ""},
		{"delete from t where ", ""},
		{"select * from t where ", ""},
		{"select sum(a) from t where ", " order by a"},
		{"create view v strip as select * from t where ", ""},
		{"create closure v strip as insert into t values (", ")"},
		{"create closure v strip as update t set a = ", ""},
		{"create closure v strip as update t set a = 1 where ", ""},
		{"create closure v strip as delete from t where ", ""},
	}
}

// fine asks that s is a statement.
func fine(t *testing.T, s string) {
	t.Helper()
	if e := held(t, s); e != api.OK {
		t.Errorf("Parse(%q) is %d", s, e)
	}
}

// P7.1: as many within one another as MaxNest, and one more

func TestDeep(t *testing.T) {
	for _, f := range frames() {
		for _, mix := range mixes() {
			for _, n := range []int{1, 2, 7, api.MaxNest - 1, api.MaxNest} {
				_, whole, _ := nested(n, mix)
				if s := f.ahead + whole + f.behind; len(s) <= api.MaxText {
					fine(t, s)
				}
			}
			open, _, _ := nested(api.MaxNest, mix)
			if s := f.ahead + open; len(s) <= api.MaxText {
				bad(t, s, len(s), api.ErrParse)
			}
			for n := api.MaxNest + 1; n < api.MaxNest+4; n++ {
				_, whole, places := nested(n, mix)
				if s := f.ahead + whole + f.behind; len(s) <= api.MaxText {
					bad(t, s, len(f.ahead)+places[api.MaxNest], api.ErrDeep)
				}
			}
		}
	}
}

// Each alone, the text of which is never too long.
func TestDeepOfEachKind(t *testing.T) {
	for _, f := range frames() {
		for _, o := range []opener{bracket, minus, not} {
			_, whole, _ := nested(api.MaxNest, []opener{o})
			_, more, places := nested(api.MaxNest+1, []opener{o})
			fine(t, f.ahead+whole+f.behind)
			bad(t, f.ahead+more+f.behind, len(f.ahead)+places[api.MaxNest], api.ErrDeep)
		}
	}
}

func TestTooDeepBesideOtherFaults(t *testing.T) {
	for _, f := range frames() {
		for _, mix := range mixes() {
			open, _, places := nested(api.MaxNest+1, mix)
			last := places[api.MaxNest]
			open = strings.TrimSuffix(open, " ")
			// The text ends there, or something stands behind that cannot.
			for _, behind := range []string{"", "   ", " group", ")", " )", " *", " and", " not", "(", " 1 1", " begin", ",", " = "} {
				if s := f.ahead + open + behind; len(s) <= api.MaxText {
					bad(t, s, len(f.ahead)+last, api.ErrDeep)
				}
			}
			if s := f.ahead + open + " A"; len(s) <= api.MaxText {
				bad(t, s, len(s)-1, api.ErrLex)
			}
			// A fault ahead of it is told.
			if s := "x " + f.ahead + open; len(s) <= api.MaxText {
				bad(t, s, 0, api.ErrParse)
			}
			if s := f.ahead + "1 " + open; len(s) <= api.MaxText && mix[0] != minus {
				bad(t, s, len(f.ahead)+2, api.ErrParse)
			}
		}
	}
	deep := strings.Repeat("(", api.MaxNest+1)
	bad(t, "create closure c strip 65536 as delete from t where "+deep, 23, api.ErrForm)
	// Of two that are too deep the first is told.
	bad(t, "update t set a = "+deep+"1"+strings.Repeat(")", api.MaxNest+1)+" where "+deep, 17+api.MaxNest, api.ErrDeep)
}

// A word that cannot stand there does not count, however deep it is.
func TestWhatCannotStandIsNotTooDeep(t *testing.T) {
	minuses := "delete from t where " + strings.Repeat("-", api.MaxNest)
	bad(t, minuses+"not 1", len(minuses), api.ErrParse)
	bad(t, minuses+")", len(minuses), api.ErrParse)
	bad(t, minuses+"-1", len(minuses), api.ErrDeep)
	bad(t, minuses+"(1)", len(minuses), api.ErrDeep)
	fine(t, minuses+"1")
	fine(t, minuses+"1-1")
	fine(t, minuses+"1-1-1*1+1")
	bad(t, minuses+"1(", len(minuses)+1, api.ErrParse)
	bad(t, minuses+"1 not 1", len(minuses)+2, api.ErrParse)
	brackets := "delete from t where " + strings.Repeat("(", api.MaxNest)
	bad(t, brackets+"1+not 1", len(brackets)+2, api.ErrParse)
	bad(t, brackets+"1=not 1", len(brackets)+2, api.ErrParse)
	bad(t, brackets+"not 1", len(brackets), api.ErrDeep)
	bad(t, brackets+"1 and not 1", len(brackets)+6, api.ErrDeep)
	bad(t, brackets+"1--1", len(brackets)+2, api.ErrDeep)
	bad(t, brackets+"1*(1)", len(brackets)+2, api.ErrDeep)
	bad(t, brackets+"1(", len(brackets)+1, api.ErrParse)
	bad(t, brackets+"1-", len(brackets)+2, api.ErrParse)
}

// Brackets that are no expression's do not count, nor does a "-" between two.
func TestOtherBracketsDoNotCount(t *testing.T) {
	_, deep, _ := nested(api.MaxNest, []opener{bracket})
	_, more, _ := nested(api.MaxNest+1, []opener{bracket})
	fine(t, "insert into t values("+deep+")")
	fine(t, "insert into t values(1,"+deep+","+deep+")")
	bad(t, "insert into t values("+more+")", 21+api.MaxNest, api.ErrDeep)
	fine(t, "select count(*), sum(a), min(b), max(c), count(*) from t where "+deep)
	bad(t, "select count(*), sum(a), min(b), max(c), count(*) from t where "+more, 63+api.MaxNest, api.ErrDeep)
	fine(t, "create table t("+strings.Repeat("k int,", 60)+"k int)")
	fine(t, "delete from t where 1"+strings.Repeat("-1", 180))
	fine(t, "select count(*)"+strings.Repeat(",sum(a)", 45)+" from t where "+"a")
	fine(t, "select "+strings.Repeat("count(*),", 41)+"a from t")
}

// P7.1: what lies side by side is not within one another

func TestSideBySide(t *testing.T) {
	_, deep, _ := nested(api.MaxNest, []opener{bracket})
	_, deepMinus, _ := nested(api.MaxNest, []opener{minus})
	_, deepMix, _ := nested(api.MaxNest, []opener{not, bracket})
	for _, part := range []string{"(1)", "-1", "not 1", "((1))", "--1", "not not 1", "not(-1)", "-(1)", "(not(1))"} {
		for _, sign := range []string{"+", "-", "*", "=", " and ", " or "} {
			if strings.HasPrefix(part, "not") && len(sign) == 1 {
				continue
			}
			row := part
			for n := 0; len(row)+len(sign+part) <= 370 && (sign != "=" || n < 1); n++ {
				row += sign + part
			}
			fine(t, "delete from t where "+row)
			fine(t, "insert into t values("+row+")")
		}
		list := part + strings.Repeat(","+part, 350/(len(part)+1))
		fine(t, "insert into t values("+list+")")
	}
	for _, x := range []string{deep, deepMinus, deepMix} {
		for _, y := range []string{deep, deepMinus, deepMix} {
			for _, s := range []string{
				"delete from t where " + x + " and " + y,
				"delete from t where " + x + " or " + y,
				"update t set a = " + x + " where " + y,
				"create closure c strip as update t set a = " + x + " where " + y,
				"insert into t values (" + x + "," + y + ")",
			} {
				if len(s) <= api.MaxText {
					fine(t, s)
				}
			}
		}
	}
	fine(t, "delete from t where "+deep+"="+deepMinus)
	fine(t, "delete from t where "+deep+"*"+deepMinus+"+"+deepMinus)
	// What stands behind one that is deep is as deep as what holds both.
	_, within, _ := nested(api.MaxNest-1, []opener{bracket})
	fine(t, "delete from t where ("+within+"+"+within+")")
	bad(t, "delete from t where ("+within+"+"+deep+")", 20+1+len(within)+1+api.MaxNest-1, api.ErrDeep)
	fine(t, "delete from t where not 1 or "+deep)
	bad(t, "delete from t where not 1 or "+"("+deep+")", 29+api.MaxNest, api.ErrDeep)
	bad(t, "delete from t where not -1="+deep, 27+api.MaxNest-1, api.ErrDeep)
	fine(t, "delete from t where -1*"+deep)
	bad(t, "delete from t where not 1*"+deep, 26+api.MaxNest-1, api.ErrDeep)
}
