package rel_test

import (
	"strings"
	"testing"

	"quarantine/api"
)

// P12.1, without Agg: the Items' columns; none: all

func TestItems(t *testing.T) {
	come(t, map[string]string{
		"select * from t":                                              "[1 'b' 5] [2 'a' 3] [3 'b' 5] [4 '' -1]",
		"select k, x, a from t":                                        "[1 'b' 5] [2 'a' 3] [3 'b' 5] [4 '' -1]",
		"select a from t":                                              "[5] [3] [5] [-1]",
		"select x, k from t":                                           "['b' 1] ['a' 2] ['b' 3] ['' 4]",
		"select a, x, k from t":                                        "[5 'b' 1] [3 'a' 2] [5 'b' 3] [-1 '' 4]",
		"select t.a, x, t.k from t":                                    "[5 'b' 1] [3 'a' 2] [5 'b' 3] [-1 '' 4]",
		"select k, k from t":                                           "[1 1] [2 2] [3 3] [4 4]",
		"select x, t.x, a, x from t where k < 3":                       "['b' 'b' 5 'b'] ['a' 'a' 3 'a']",
		"select * from t join u on t.k = u.k":                          "[3 'b' 5 3 6 'c']",
		"select y, x from t join u on t.k = u.k":                       "['c' 'b']",
		"select u.k, t.k, r, a, u.k from t join u on a = r":            "[7 2 3 3 7] [9 2 3 3 9]",
		"select t.k, t.x, t.a, u.k, u.r, u.y from t join u on r = t.k": "[1 'b' 5 8 1 'a'] [3 'b' 5 7 3 'b'] [3 'b' 5 9 3 'b']",
	})
}

// Nil and an empty list of Items are one (R3).
func TestNoItems(t *testing.T) {
	g := asking(t, "select * from t")
	g.St.Items = []api.Item{}
	g.comes(t, "[1 'b' 5] [2 'a' 3] [3 'b' 5] [4 '' -1]")
	g.St.Items = make([]api.Item, 0, 5)
	g.comes(t, "[1 'b' 5] [2 'a' 3] [3 'b' 5] [4 '' -1]")
}

// Many Items, more than there are columns.
func TestManyItems(t *testing.T) {
	g := asking(t, "select "+strings.Repeat("a, k, ", 20)+"x from t where k = 2")
	g.comes(t, "["+strings.Repeat("3 2 ", 20)+"'a']")
}

// P12.1, without Agg: Order, as Sort: rising and falling, alike ones as they stood

func TestOrders(t *testing.T) {
	come(t, map[string]string{
		"select k from t order by k":                                        "[1] [2] [3] [4]",
		"select k from t order by k desc":                                   "[4] [3] [2] [1]",
		"select k from t order by a":                                        "[4] [2] [1] [3]",
		"select k from t order by a desc":                                   "[1] [3] [2] [4]",
		"select k from t order by t.x":                                      "[4] [2] [1] [3]",
		"select k from t order by x desc":                                   "[1] [3] [2] [4]",
		"select * from t order by a":                                        "[4 '' -1] [2 'a' 3] [1 'b' 5] [3 'b' 5]",
		"select a, a from t order by a desc":                                "[5 5] [5 5] [3 3] [-1 -1]",
		"select k from t where a > 0 order by a":                            "[2] [1] [3]",
		"select k from t where k > 9 order by a":                            "",
		"select k from t where k = 3 order by a desc":                       "[3]",
		"select t.k, u.k from t join u on x = y order by u.k":               "[1 7] [3 7] [2 8] [1 9] [3 9]",
		"select t.k, u.k from t join u on x = y order by u.k desc":          "[1 9] [3 9] [2 8] [1 7] [3 7]",
		"select t.k, u.k from t join u on x = y order by t.k desc":          "[3 7] [3 9] [2 8] [1 7] [1 9]",
		"select t.k, u.k from t join u on x = y order by y":                 "[2 8] [1 7] [1 9] [3 7] [3 9]",
		"select t.k, u.k from t join u on x = y order by r":                 "[2 8] [1 7] [1 9] [3 7] [3 9]",
		"select t.k, u.k from t join u on x = y order by r desc":            "[1 7] [1 9] [3 7] [3 9] [2 8]",
		"select * from t join u on t.k = r where u.k > 7 order by u.k desc": "[3 'b' 5 9 3 'b'] [1 'b' 5 8 1 'a']",
	})
}

// The column by which they stand is the tables', not the told one at that place.
func TestOrderByWhatIsNotTold(t *testing.T) {
	g := given{Left: table("t", "k int", "a int", "b int"), Lrows: [][]api.Value{ints(1, 30, 5), ints(2, 10, 6), ints(3, 20, 4)}}
	for text, want := range map[string]string{
		"select k from t order by a":                  "[2] [3] [1]",
		"select k from t order by b":                  "[3] [1] [2]",
		"select b, k from t order by a desc":          "[5 1] [4 3] [6 2]",
		"select b, a from t order by k desc":          "[4 20] [6 10] [5 30]",
		"select b, b, a, k from t order by a":         "[6 6 10 2] [4 4 20 3] [5 5 30 1]",
		"select a from t order by b desc":             "[10] [30] [20]",
		"select a from t where b > 4 order by k":      "[30] [10]",
		"select a from t where b > 4 order by a":      "[10] [30]",
		"select b from t where a > 10 order by a":     "[4] [5]",
		"select b from t where 1 = 2 order by a desc": "",
	} {
		g.St = stmt(t, text)
		g.comes(t, want)
	}
}

// Without Order Desc says nothing.
func TestDescWithoutOrder(t *testing.T) {
	g := asking(t, "select k from t")
	g.St.Desc = true
	g.comes(t, "[1] [2] [3] [4]")
	g.St.Order = []api.Expr{}
	g.comes(t, "[1] [2] [3] [4]")
}

// More rows than a sort may take in one piece, many of them alike, stand as they stood.
func TestOrderOfMany(t *testing.T) {
	g := given{Left: table("t", "k int", "a int")}
	var rising, falling [][]api.Value
	for i := range int64(100) {
		g.Lrows = append(g.Lrows, ints(i, i*7%3))
	}
	for a := range int64(3) {
		for _, r := range g.Lrows {
			if r[1].Int == a {
				rising = append(rising, r)
			}
			if r[1].Int == 2-a {
				falling = append(falling, r)
			}
		}
	}
	g.St = stmt(t, "select * from t order by a")
	g.comes(t, shown(rising))
	g.St = stmt(t, "select * from t order by a desc")
	g.comes(t, shown(falling))
}
