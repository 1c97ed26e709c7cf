package parse_test

import (
	"math"
	"reflect"
	"regexp"
	"slices"
	"strings"
	"testing"

	"quarantine/api"
	"quarantine/lex"
	"quarantine/parse"
)

// The grammar, as the document has it.
const grammar = `
stmt    = create | insert | select | update | delete | "begin" | "commit" | "rollback"
        | "raise" tags | "call" name
create  = "create" ( "table" name "(" col { "," col } ")" | "index" "on" name "(" name ")"
        | "view" name "strip" [ tags ] "as" select | "closure" name "strip" [ tags ] "as" ( insert | update | delete ) )
col     = name ( "int" | "text" ) [ "ref" name ]
tags    = number { "," number }
insert  = "insert" "into" name "values" "(" expr { "," expr } ")"
select  = "select" ( "*" | item { "," item } ) "from" name [ "join" name "on" column "=" column ]
          [ "where" expr ] [ "order" "by" column [ "desc" ] ]
item    = column | "count" "(" "*" ")" | ( "sum" | "min" | "max" ) "(" column ")"
update  = "update" name "set" name "=" expr [ "where" expr ]
delete  = "delete" "from" name [ "where" expr ]
column  = name [ "." name ]
expr    = and { "or" and }
and     = not { "and" not }
not     = "not" not | comp
comp    = sum [ ( "=" | "<>" | "<" | "<=" | ">" | ">=" ) sum ]
sum     = term { ( "+" | "-" ) term }
term    = unary { "*" unary }
unary   = "-" unary | "(" expr ")" | number | text | column
`

// way is a piece of the grammar: it goes from the word at, within so many others, to all places where what it stands for may end, and hands each on.
type way func(l *look, at, deep int, on func(at int))

// look is what is known of a row of words: the furthest word that some way asked for in vain, and why.
type look struct {
	words []api.Token
	whole bool
	far   int
	e     api.Errno
}

// stop takes down that no way goes on from there. That a word may stand, but is too much, is told ahead of what other ways wanted in its place.
func (l *look) stop(at int, e api.Errno) {
	if at > l.far || at == l.far && e != api.ErrParse {
		l.far, l.e = at, e
	}
}

// notes is the grammar, read: its rules by their names.
type notes struct {
	rules map[string]way
	left  []string // of the rule that is being read
	rule  string
}

var noteForm = regexp.MustCompile(`"[^"]+"|[a-z]+|[][(){}|]`)

func readGrammar() map[string]way {
	n := &notes{rules: map[string]way{}}
	heads := regexp.MustCompile(`(?m)^([a-z]+) +=`).FindAllStringSubmatchIndex(grammar, -1)
	for i, h := range heads {
		end := len(grammar)
		if i+1 < len(heads) {
			end = heads[i+1][0]
		}
		n.rule, n.left = grammar[h[2]:h[3]], noteForm.FindAllString(grammar[h[1]:end], -1)
		n.rules[n.rule] = n.either()
	}
	return n.rules
}

func (n *notes) take(s string) bool {
	if len(n.left) == 0 || n.left[0] != s {
		return false
	}
	n.left = n.left[1:]
	return true
}

func (n *notes) either() way {
	ways := []way{n.row()}
	for n.take("|") {
		ways = append(ways, n.row())
	}
	return func(l *look, at, deep int, on func(int)) {
		for _, w := range ways {
			w(l, at, deep, on)
		}
	}
}

func (n *notes) row() way {
	// Behind such a word of such a rule, to the end of this row, all is one deeper.
	opens := len(n.left) > 0 && (n.rule == "not" && n.left[0] == `"not"` || n.rule == "unary" && (n.left[0] == `"-"` || n.left[0] == `"("`))
	var ways []way
	for len(n.left) > 0 && !strings.Contains("|)]}", n.left[0]) {
		ways = append(ways, n.one())
	}
	var from func(i int, l *look, at, deep int, on func(int))
	from = func(i int, l *look, at, deep int, on func(int)) {
		if i == len(ways) {
			on(at)
			return
		}
		ways[i](l, at, deep, func(end int) {
			next := deep
			if i == 0 && opens {
				next++
			}
			if next > api.MaxNest {
				l.stop(at, api.ErrDeep)
				return
			}
			from(i+1, l, end, next, on)
		})
	}
	return func(l *look, at, deep int, on func(int)) { from(0, l, at, deep, on) }
}

func (n *notes) one() way {
	note := n.left[0]
	n.left = n.left[1:]
	switch note {
	case "(":
		w := n.either()
		n.take(")")
		return w
	case "[":
		w := n.either()
		n.take("]")
		return func(l *look, at, deep int, on func(int)) {
			w(l, at, deep, on)
			on(at)
		}
	case "{":
		w := n.either()
		n.take("}")
		var again way
		again = func(l *look, at, deep int, on func(int)) {
			w(l, at, deep, func(end int) { again(l, end, deep, on) })
			on(at)
		}
		return again
	case "name":
		return word(func(t api.Token) bool { return t.Kind == api.TokName })
	case "text":
		return word(func(t api.Token) bool { return t.Kind == api.TokText })
	case "number":
		return n.number()
	}
	if quoted := strings.Trim(note, `"`); quoted != note {
		return word(func(t api.Token) bool { return (t.Kind == api.TokWord || t.Kind == api.TokSign) && t.Text == quoted })
	}
	return func(l *look, at, deep int, on func(int)) { n.rules[note](l, at, deep, on) }
}

func (n *notes) number() way {
	such := word(func(t api.Token) bool { return t.Kind == api.TokNumber })
	if n.rule != "tags" {
		return such
	}
	return func(l *look, at, deep int, on func(int)) {
		such(l, at, deep, func(end int) {
			if l.words[at].Int > math.MaxUint16 {
				l.stop(at, api.ErrForm)
				return
			}
			on(end)
		})
	}
}

// word is a way over one such word.
func word(such func(api.Token) bool) way {
	return func(l *look, at, deep int, on func(int)) {
		if !such(l.words[at]) {
			l.stop(at, api.ErrParse)
			return
		}
		on(at + 1)
	}
}

var rules = readGrammar()

// asked tells what the grammar says of s: its error and its place.
func asked(s string) (at int, e api.Errno) {
	words, at, e := lex.Lex(s)
	if e != api.OK {
		return at, e
	}
	l := &look{words: words, far: -1}
	rules["stmt"](l, 0, 0, func(end int) {
		if words[end].Kind == api.TokEnd {
			l.whole = true
			return
		}
		l.stop(end, api.ErrParse)
	})
	if l.whole {
		return 0, api.OK
	}
	return words[l.far].At, l.e
}

// held holds what Parse tells against what the grammar says.
func held(t *testing.T, s string) api.Errno {
	t.Helper()
	wantAt, wantE := asked(s)
	st, at, e := parse.Parse(s)
	if at != wantAt || e != wantE {
		t.Fatalf("Parse(%q) is %d at %d, not %d at %d", s, e, at, wantE, wantAt)
	}
	if e != api.OK && !reflect.DeepEqual(plainStmt(st), api.Stmt{}) {
		t.Fatalf("Parse(%q) is %s beside an error", s, brief(st))
	}
	if e == api.OK && st.Kind == 0 {
		t.Fatalf("Parse(%q) is of no kind", s)
	}
	return e
}

// noNames are the words of the document that are no names.
var noNames = strings.Fields("and as begin by call closure commit count create delete desc from group index insert int into join max min not on or order raise ref rollback select set strip sum table text update values view where")

var signs = strings.Fields("( ) , . = < > + - * <> <= >=")

// vocabulary is each word of the grammar, and some of each other kind.
func vocabulary() []string {
	l := append([]string{"a", "65535", "65536", "'x'"}, noNames...)
	return append(l, signs...)
}

// P7.1: all samples with each word left out, another one in its place, or another one ahead of it, and cut off behind each

func TestChangedSamples(t *testing.T) {
	behind := doors()
	behind = behind[len(behind)-len(queries())-len(changes()):]
	for _, x := range slices.Concat(tables(), changes(), queries(), others(), behind) {
		words := strings.Fields(x.text)
		for i := range len(words) + 1 {
			ahead := strings.Join(words[:i], " ")
			held(t, ahead)
			held(t, ahead+"  ")
			if i < len(words) {
				held(t, ahead+" "+strings.Join(words[i+1:], " "))
			}
			for _, w := range vocabulary() {
				held(t, ahead+" "+w)
				held(t, ahead+" "+w+" "+strings.Join(words[i:], " "))
				if i < len(words) {
					held(t, ahead+" "+w+" "+strings.Join(words[i+1:], " "))
				}
			}
		}
	}
}

// P7.1: all rows of some words of which all but the last may stand where they do

func TestAllShortRows(t *testing.T) {
	rows := []string{""}
	for range 8 {
		var longer []string
		for _, s := range rows {
			for _, w := range vocabulary() {
				more := s + w
				e := held(t, more)
				// Where it is told at the end, the words so far may stand.
				if at, _ := asked(more); e == api.OK || at == len(more) {
					longer = append(longer, more+" ")
				}
			}
		}
		rows = longer
	}
	if len(rows) == 0 {
		t.Fatal("nothing was held")
	}
}

// P7.1, R1: whatever is handed in

func FuzzParse(f *testing.F) {
	for _, x := range samples() {
		f.Add(x.text)
	}
	for _, s := range []string{"", " ", "commit x", "raise 65536", "1a", "delete from t where ((((((((", "delete from t where not not - - ("} {
		f.Add(s)
	}
	f.Fuzz(func(t *testing.T, s string) { held(t, s) })
}
