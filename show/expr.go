package show

import (
	"strconv"
	"strings"

	"quarantine/api"
)

// expr writes e as one word of a statement.
func (w *writer) expr(e api.Expr) {
	w.space()
	w.part(e)
}

// part writes e right behind what is there: an expression has its own spaces, also where a part of it comes to nothing.
func (w *writer) part(e api.Expr) {
	switch e.Op {
	case api.ExLit:
		w.value(e.Value)
	case api.ExCol:
		w.column(e.Table, e.Name)
	case api.ExNeg:
		w.ofOne("-", e.Args)
	case api.ExNot:
		w.ofOne("not ", e.Args)
	default:
		w.ofTwo(between(e.Op), e.Args)
	}
}

func (w *writer) value(v api.Value) {
	switch {
	case v.Kind == api.Int && v.Int >= 0:
		w.put(strconv.FormatInt(v.Int, 10))
	case v.Kind == api.Text:
		w.put("'", strings.ReplaceAll(v.Text, "'", "''"), "'")
	}
}

func (w *writer) column(table, name string) {
	if table != "" {
		w.put(table, ".")
	}
	w.put(name)
}

func (w *writer) ofOne(ahead string, args []api.Expr) {
	if len(args) != 1 {
		return
	}
	w.put("(", ahead)
	w.part(args[0])
	w.put(")")
}

func (w *writer) ofTwo(word string, args []api.Expr) {
	if word == "" || len(args) != 2 {
		return
	}
	w.put("(")
	w.part(args[0])
	w.put(" ", word, " ")
	w.part(args[1])
	w.put(")")
}

// between tells the word that stands between the two of op; "": there is none.
func between(op int) string {
	switch op {
	case api.ExAdd:
		return "+"
	case api.ExSub:
		return "-"
	case api.ExMul:
		return "*"
	case api.ExEq:
		return "="
	case api.ExNe:
		return "<>"
	case api.ExLt:
		return "<"
	case api.ExLe:
		return "<="
	case api.ExGt:
		return ">"
	case api.ExGe:
		return ">="
	case api.ExAnd:
		return "and"
	case api.ExOr:
		return "or"
	}
	return ""
}
