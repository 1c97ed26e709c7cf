package parse_test

import (
	"strconv"
	"strings"
	"testing"

	"quarantine/api"
)

// marked are statements of each kind: behind a | it may end, and a name in capitals stands where nothing but a name may.
func marked() []string {
	changes := []string{
		"insert into T values ( 1 , a + 2 ) |",
		"update T set C = 1 | + a | where not ( b ) | = 2 |",
		"update T set C = c |",
		"delete from T | where t | . A | = 'x' |",
		"delete from T | where - 1 | < - b | or c | and d | * 2 | >= e |",
	}
	queries := []string{
		"select * from T |",
		"select a , count ( * ) , sum ( A ) , min ( T . A ) , t . B , max ( U . C ) from T |",
		"select * from T | join U on A = B | where a | <> b | order by C | desc |",
		"select t . A from T | join U on T . A = U | . B | order by C | . D | desc |",
		"select count ( * ) from T | where a | order by C |",
	}
	l := []string{
		"create table T ( K int , X text , R int ref U , S text ref V ) |",
		"create table T ( K text ) |",
		"create index on T ( C ) |",
		"begin |", "commit |", "rollback |",
		"raise 1 | , 65535 | , 0 |",
		"call V |",
	}
	for _, s := range changes {
		l = append(l, s, "create closure C strip as "+s, "create closure C strip 1 as "+s, "create closure C strip 1 , 2 as "+s)
	}
	for _, s := range queries {
		l = append(l, s, "create view V strip as "+s, "create view V strip 1 as "+s, "create view V strip 1 , 2 as "+s)
	}
	return l
}

// unmarked tells s's words, which of them may be the last, and which must be names.
func unmarked(s string) (words []string, last, name []bool) {
	for _, w := range strings.Fields(s) {
		if w == "|" {
			last[len(last)-1] = true
			continue
		}
		lower := strings.ToLower(w)
		words, last, name = append(words, lower), append(last, false), append(name, lower != w)
	}
	return words, last, name
}

// P7.1: cut off behind each word

func TestCutOff(t *testing.T) {
	for _, m := range marked() {
		words, last, _ := unmarked(m)
		for i := range words {
			s := strings.Join(words[:i+1], " ")
			if last[i] {
				if e := held(t, s); e != api.OK {
					t.Errorf("Parse(%q) is %d", s, e)
				}
				continue
			}
			bad(t, s, len(s), api.ErrParse)
			// The end is told behind the spaces, too.
			bad(t, s+"   ", len(s)+3, api.ErrParse)
		}
	}
}

// P7.1: a word that cannot stand where it does

func TestAWordThatStandsNowhere(t *testing.T) {
	for _, m := range marked() {
		words, _, _ := unmarked(m)
		for i := range len(words) + 1 {
			ahead := strings.Join(append(words[:i:i], ""), " ")
			bad(t, ahead+"group", len(ahead), api.ErrParse)
			bad(t, ahead+"group "+strings.Join(words[i:], " "), len(ahead), api.ErrParse)
			bad(t, ahead+"  group group  ", len(ahead)+2, api.ErrParse)
		}
	}
}

func TestWhereANameIsWanted(t *testing.T) {
	for _, m := range marked() {
		words, _, name := unmarked(m)
		for i := range words {
			if !name[i] {
				continue
			}
			ahead := strings.Join(append(words[:i:i], ""), " ")
			behind := strings.Join(words[i+1:], " ")
			for _, w := range vocabulary() {
				if w != "a" {
					bad(t, ahead+w, len(ahead), api.ErrParse)
					bad(t, ahead+w+" "+behind, len(ahead), api.ErrParse)
				}
			}
		}
	}
}

func TestBehindTheStatement(t *testing.T) {
	// Of these nothing goes on.
	for _, s := range []string{
		"create table t (k int)", "create index on t (c)", "begin", "commit", "rollback", "insert into t values (1)",
		"select * from t order by a desc", "create closure c strip as insert into t values (1)", "create view v strip 1 as select * from t order by a desc",
	} {
		for _, w := range vocabulary() {
			bad(t, s+" "+w, len(s)+1, api.ErrParse)
			bad(t, s+"   "+w+" a 1", len(s)+3, api.ErrParse)
		}
	}
	for _, x := range samples() {
		bad(t, x.text+" commit", len(x.text)+1, api.ErrParse)
		bad(t, x.text+" )", len(x.text)+1, api.ErrParse)
		bad(t, x.text+" "+x.text, len(x.text)+1, api.ErrParse)
	}
}

func TestFirstWords(t *testing.T) {
	first := " create insert select update delete begin commit rollback raise call "
	for _, w := range vocabulary() {
		if !strings.Contains(first, " "+w+" ") {
			bad(t, w, 0, api.ErrParse)
			bad(t, "  "+w+" table t", 2, api.ErrParse)
		}
	}
}

func TestNoWord(t *testing.T) {
	for n := range api.MaxText + 1 {
		bad(t, strings.Repeat(" ", n), n, api.ErrParse)
	}
	bad(t, strings.Repeat(" ", api.MaxText+1), 0, api.ErrLong)
}

func TestPlacesOfWrongWords(t *testing.T) {
	for _, x := range []struct {
		text string
		at   int
	}{
		{"create", 6}, {"create t", 7}, {"create select", 7}, {"create table (", 13}, {"create table t k", 15}, {"create table t.u (k int)", 14},
		{"create table t ()", 16}, {"create table t (k)", 17}, {"create table t (int)", 16}, {"create table t (k k)", 18}, {"create table t (k int,)", 22},
		{"create table t (k int r text)", 22}, {"create table t (k int ref)", 25}, {"create table t (k int ref u.k)", 27}, {"create table t (k ref u)", 18},
		{"create table t (k int int)", 22}, {"create table t (k bool)", 18}, {"create table t (k 'text')", 18}, {"create table t (k int))", 22}, {"create table t (1 int)", 16},
		{"create index t(c)", 13}, {"create index on t", 17}, {"create index on t()", 18}, {"create index on t(a, b)", 19}, {"create index on t(t.a)", 19}, {"create index i on t(a)", 13},
		{"create view v as select * from t", 14}, {"create view v strip 1, as select * from t", 23}, {"create view v strip , as select * from t", 20},
		{"create view v strip 1 2 as select * from t", 22}, {"create view v strip a as select * from t", 20}, {"create view v strip 'a' as select * from t", 20},
		{"create view v strip -1 as select * from t", 20}, {"create view v strip 1 select * from t", 22}, {"create view v strip as", 22},
		{"create view v strip as insert into t values(1)", 23}, {"create view v strip as update t set a = 1", 23}, {"create view v strip as delete from t", 23},
		{"create view v strip as create table t (k int)", 23}, {"create view v strip as begin", 23}, {"create view v strip as call v", 23}, {"create view v strip as (select * from t)", 23},
		{"create closure v strip as select * from t", 26}, {"create closure v strip as raise 1", 26}, {"create closure v strip as call v", 26},
		{"create closure v strip as create view w strip as select * from t", 26}, {"create closure v strip as commit", 26},
		{"insert t values (1)", 7}, {"insert into t (1)", 14}, {"insert into t values 1", 21}, {"insert into t values ()", 22}, {"insert into t values (1,)", 24},
		{"insert into t values (1 2)", 24}, {"insert into t values (,1)", 22}, {"insert into t values (1), (2)", 24}, {"insert into t values (*)", 22}, {"insert into t(a) values (1)", 13},
		{"select", 6}, {"select from t", 7}, {"select *, a from t", 8}, {"select a, * from t", 10}, {"select a b from t", 9}, {"select a, from t", 10}, {"select 1 from t", 7}, {"select 'a' from t", 7},
		{"select -a from t", 7}, {"select (a) from t", 7}, {"select a+b from t", 8}, {"select t.* from t", 9}, {"select t.a.b from t", 10}, {"select t. from t", 10},
		{"select count from t", 13}, {"select count() from t", 13}, {"select count(a) from t", 13}, {"select count(* from t", 15}, {"select count(*", 14},
		{"select sum(*) from t", 11}, {"select sum() from t", 11}, {"select sum a from t", 11}, {"select min(1) from t", 11}, {"select max(a+b) from t", 12}, {"select max(a, b) from t", 12}, {"select sum(sum(a)) from t", 11},
		{"select * t", 9}, {"select * from 1", 14}, {"select * from t, u", 15}, {"select * from t u", 16}, {"select * from t.u", 15}, {"select * from select", 14},
		{"select * from t join on a = b", 21}, {"select * from t join u a = b", 23}, {"select * from t join u on a", 27}, {"select * from t join u on a < b", 28},
		{"select * from t join u on a = 1", 30}, {"select * from t join u on 1 = a", 26}, {"select * from t join u on (a = b)", 26}, {"select * from t join u on a = b and c", 32}, {"select * from t join u on a = b join v on a = b", 32},
		{"select * from t where", 21}, {"select * from t where order by a", 22}, {"select * from t where a where b", 24}, {"select * from t where a join u on a = b", 24}, {"select * from t where a desc", 24},
		{"select * from t order a", 22}, {"select * from t order by", 24}, {"select * from t order by 1", 25}, {"select * from t order by a, b", 26}, {"select * from t order by a+b", 26},
		{"select * from t order by -a", 25}, {"select * from t order by count(*)", 25}, {"select * from t order by desc", 25}, {"select * from t order by a desc desc", 32}, {"select * from t order by a where b", 27}, {"select * from t desc", 16}, {"select * from t group by a", 16},
		{"update set a = 1", 7}, {"update t a = 1", 9}, {"update t set = 1", 13}, {"update t set t.a = 1", 14}, {"update t set a 1", 15}, {"update t set a < 1", 15}, {"update t set a =", 16},
		{"update t set a = 1, b = 2", 18}, {"update t set a = where b", 17}, {"update t set a = 1 where", 24}, {"update t set a = 1 order by b", 19}, {"update t where a", 9},
		{"delete t", 7}, {"delete * from t", 7}, {"delete from", 11}, {"delete from t where", 19}, {"delete from t order by a", 14}, {"delete from t join u on a = b", 14},
		{"raise", 5}, {"raise a", 6}, {"raise ,", 6}, {"raise 1,", 8}, {"raise 1 2", 8}, {"raise -1", 6}, {"raise 1.", 7}, {"raise (1)", 6}, {"raise '1'", 6}, {"raise 1,,2", 8}, {"raise 1+1", 7},
		{"call", 4}, {"call 1", 5}, {"call v()", 6}, {"call v w", 7}, {"call v.w", 6}, {"call call", 5}, {"call 'v'", 5},
		{"begin begin", 6}, {"commit 1", 7}, {"rollback (", 9},
	} {
		bad(t, x.text, x.at, api.ErrParse)
		bad(t, "   "+x.text, x.at+3, api.ErrParse)
	}
}

func TestPlacesInExpressions(t *testing.T) {
	for _, x := range []struct {
		text string
		at   int
	}{
		{")", 0}, {"*", 0}, {"+1", 0}, {"= 1", 0}, {"and a", 0}, {"or a", 0}, {".a", 0}, {", a", 0}, {"int", 0}, {"count(*)", 0}, {"sum(a)", 0},
		{"a b", 2}, {"1 2", 2}, {"1 a", 2}, {"'a' 'b'", 4}, {"a 'b'", 2}, {"a 1", 2}, {"a (b)", 2}, {"(a)(b)", 3}, {"(a) b", 4}, {"a not b", 2}, {"1.5", 1}, {"1.a", 1}, {"'a'.b", 3}, {"(t).a", 3},
		{"a. ", 3}, {"a.1", 2}, {"a.b.c", 3}, {"a.'b'", 2}, {"a..b", 2}, {"a.not", 2}, {"a.sum", 2}, {"a.(b)", 2}, {"a.*", 2},
		{"a +", 3}, {"a + + b", 4}, {"a * * b", 4}, {"a = = b", 4}, {"a = < b", 4}, {"a > = b", 4}, {"a =", 3}, {"a and", 5}, {"a or", 4}, {"a and and b", 6}, {"a and or b", 6}, {"a or and b", 5},
		{"a = not b", 4}, {"a + not b", 4}, {"a * not b", 4}, {"- not b", 2}, {"-", 1}, {"- -", 3}, {"not", 3}, {"not not", 7}, {"not and", 4}, {"not )", 4}, {"- )", 2}, {"- *", 2}, {"-+1", 1},
		{"(", 1}, {"()", 1}, {"(a", 2}, {"((a)", 4}, {"(a b)", 3}, {"(a,", 2}, {"(a, b)", 2}, {"(not)", 4}, {"(a =)", 4}, {"(select * from t)", 1}, {"(a = 1 = 2)", 7}, {"(a where b)", 3}, {"(a order by b)", 3},
		{"a = 1 = 2", 6}, {"a < 1 > 2", 6}, {"not a = b = c", 10}, {"a = b and c = d = e", 16}, {"a = b + 1 = c", 10}, {"a = -b = c", 7}, {"a = (b) = c", 8},
		{"a in", 2}, {"a is", 2}, {"a ref b", 2}, {"a as b", 2}, {"a desc", 2}, {"a group by b", 2}, {"a values", 2},
	} {
		for _, ahead := range []string{"delete from t where ", "update t set a = ", "update t set a = 1 where ", "select * from t where ", "insert into t values (", "insert into t values (1, "} {
			bad(t, ahead+x.text, len(ahead)+x.at, api.ErrParse)
			bad(t, ahead+x.text+" begin", placeBehind(ahead, x.text, x.at), api.ErrParse)
		}
	}
}

// placeBehind tells where a fault is when a word is laid behind: one that was the end's is now that word's.
func placeBehind(ahead, text string, at int) int {
	if at == len(text) {
		return len(ahead) + at + 1
	}
	return len(ahead) + at
}

// P7.1: lex's errors with their places, ahead of all others

func TestErrorsOfWords(t *testing.T) {
	long := strings.Repeat("n", api.MaxName+1)
	texts := []string{"", "commit ", "commit commit ", "group ", "raise 65536 ", "create view v strip 70000 ", "delete from t where " + strings.Repeat("(", api.MaxNest+1), "select * from t where a = 1 = 2 ", ") "}
	for _, x := range samples() {
		texts = append(texts, x.text+" ")
	}
	for _, ahead := range texts {
		for _, behind := range []string{"", " group", " 65536", "(", " )"} {
			bad(t, ahead+"A"+behind, len(ahead), api.ErrLex)
			bad(t, ahead+";"+behind, len(ahead), api.ErrLex)
			bad(t, ahead+"\n"+behind, len(ahead), api.ErrLex)
			bad(t, ahead+"\xff"+behind, len(ahead), api.ErrLex)
			bad(t, ahead+"12a"+behind, len(ahead)+2, api.ErrLex)
			bad(t, ahead+"'x\t'"+behind, len(ahead)+2, api.ErrLex)
			bad(t, ahead+"'x"+behind, len(ahead+behind)+2, api.ErrLex)
			bad(t, ahead+long+behind, len(ahead), api.ErrLong)
			bad(t, ahead+"'"+strings.Repeat("x", api.MaxLetter+1)+"'"+behind, len(ahead), api.ErrLong)
			bad(t, ahead+"9223372036854775808"+behind, len(ahead), api.ErrOverflow)
		}
	}
	bad(t, "commit"+strings.Repeat(" ", api.MaxText-5), 0, api.ErrLong)
	bad(t, strings.Repeat("commit ", api.MaxText), 0, api.ErrLong)
	bad(t, strings.Repeat("A", api.MaxText+1), 0, api.ErrLong)
	bad(t, strings.Repeat("A", api.MaxText), 0, api.ErrLex)
	// Of these two words' faults the first is told.
	bad(t, "commit 1a A", 8, api.ErrLex)
	bad(t, "commit "+long+" 1a", 7, api.ErrLong)
}

// P7.1: tags

func TestTags(t *testing.T) {
	for _, x := range []struct {
		ahead, behind string
		want          func(tags []uint16) api.Stmt
	}{
		{"raise ", "", func(l []uint16) api.Stmt { return api.Stmt{Kind: api.StRaise, Tags: l} }},
		{"create view v strip ", " as select * from t", func(l []uint16) api.Stmt {
			return api.Stmt{Kind: api.StView, Name: "v", Tags: l, Inner: []api.Stmt{{Kind: api.StSelect, Table: "t"}}}
		}},
		{"create closure c strip ", " as delete from t", func(l []uint16) api.Stmt {
			return api.Stmt{Kind: api.StClosure, Name: "c", Tags: l, Inner: []api.Stmt{{Kind: api.StDelete, Table: "t"}}}
		}},
	} {
		for _, n := range []uint16{0, 1, 9, 255, 256, 32767, 32768, 65534, 65535} {
			s := strconv.Itoa(int(n))
			good(t, x.ahead+s+x.behind, x.want([]uint16{n}))
			good(t, x.ahead+"000"+s+x.behind, x.want([]uint16{n}))
			good(t, x.ahead+"3,"+s+x.behind, x.want([]uint16{3, n}))
			good(t, x.ahead+s+" , 3,"+s+x.behind, x.want([]uint16{n, 3, n}))
		}
		for _, s := range []string{"65536", "065536", "65537", "70000", "99999", "131071", "131072", "2147483648", "4294967296", "4294967297", "9223372036854775807"} {
			at := len(x.ahead)
			// Alone, and beside faults behind it.
			for _, behind := range []string{x.behind, "", ",", " x", ",65536", ", x", " group", " 1", " as begin", " as select * from t where" + strings.Repeat("(", api.MaxNest+1)} {
				bad(t, x.ahead+s+behind, at, api.ErrForm)
				bad(t, x.ahead+"65535, "+s+behind, at+7, api.ErrForm)
				bad(t, x.ahead+"1,2,3,4,5,6,7,8,9,"+s+behind, at+18, api.ErrForm)
			}
			bad(t, x.ahead+s+" A", at+len(s)+1, api.ErrLex)
			bad(t, x.ahead+s+"a", at+len(s), api.ErrLex)
			// Beside a fault ahead of it.
			bad(t, "x "+x.ahead+s+x.behind, 0, api.ErrParse)
			bad(t, x.ahead+"1 "+s+x.behind, at+2, api.ErrParse)
			bad(t, x.ahead+"1,,"+s+x.behind, at+2, api.ErrParse)
			bad(t, x.ahead+"-"+s+x.behind, at, api.ErrParse)
			bad(t, x.ahead+"("+s+")"+x.behind, at, api.ErrParse)
			bad(t, x.ahead+"1, x, "+s+x.behind, at+3, api.ErrParse)
		}
		bad(t, x.ahead+"9223372036854775808"+x.behind, len(x.ahead), api.ErrOverflow)
	}
	// What is no tag may be greater, or cannot stand at all.
	good(t, "insert into t values (65536)", api.Stmt{Kind: api.StInsert, Table: "t", Values: exprs(number(65536))})
	good(t, "create closure c strip 1 as delete from t where 65536", api.Stmt{Kind: api.StClosure, Name: "c", Tags: []uint16{1},
		Inner: []api.Stmt{{Kind: api.StDelete, Table: "t", Where: exprs(number(65536))}}})
	bad(t, "commit 65536", 7, api.ErrParse)
	bad(t, "call 65536", 5, api.ErrParse)
	bad(t, "create view 65536 strip", 12, api.ErrParse)
	bad(t, "create view v 65536", 14, api.ErrParse)
}
