package show

import (
	"strconv"

	"quarantine/api"
)

// stmt writes a statement that is whole.
func (w *writer) stmt(st api.Stmt) {
	switch st.Kind {
	case api.StTable:
		w.words("create", "table", st.Name)
		bracketed(w, st.Cols, w.col)
	case api.StIndex:
		w.words("create", "index", "on", st.Table)
		bracketed(w, []string{st.Name}, w.word)
	case api.StView:
		w.door("view", st)
	case api.StClosure:
		w.door("closure", st)
	case api.StInsert:
		w.words("insert", "into", st.Table, "values")
		bracketed(w, st.Values, w.expr)
	case api.StSelect:
		w.query(st)
	case api.StUpdate:
		w.words("update", st.Table, "set", st.Name, "=")
		list(w, st.Values, w.expr)
		behind(w, st.Where, w.expr, "where")
	case api.StDelete:
		w.words("delete", "from", st.Table)
		behind(w, st.Where, w.expr, "where")
	case api.StBegin:
		w.word("begin")
	case api.StCommit:
		w.word("commit")
	case api.StRollback:
		w.word("rollback")
	case api.StRaise:
		w.word("raise")
		list(w, st.Tags, w.tag)
	case api.StCall:
		w.words("call", st.Name)
	}
}

func (w *writer) col(c api.Col) {
	w.words(c.Name, kindWord(c.Kind))
	if c.Ref != "" {
		w.words("ref", c.Ref)
	}
}

func (w *writer) tag(tag uint16) {
	w.word(strconv.Itoa(int(tag)))
}

// door writes a view or a closure.
func (w *writer) door(kind string, st api.Stmt) {
	w.words("create", kind, st.Name, "strip")
	list(w, st.Tags, w.tag)
	w.word("as")
	list(w, st.Inner, w.stmt)
}

// query writes a select.
func (w *writer) query(st api.Stmt) {
	w.word("select")
	if len(st.Items) == 0 {
		w.word("*")
	}
	list(w, st.Items, w.item)
	w.words("from", st.Table)
	if st.Join != "" {
		w.words("join", st.Join, "on")
		w.expr(st.On[0])
		w.word("=")
		w.expr(st.On[1])
	}
	behind(w, st.Where, w.expr, "where")
	behind(w, st.Order, w.expr, "order", "by")
	if st.Desc {
		w.word("desc")
	}
}

func (w *writer) item(it api.Item) {
	w.space()
	switch it.Agg {
	case api.AggNone:
		w.column(it.Table, it.Name)
	case api.AggCount:
		w.put("count(*)")
	default:
		w.put(foldWord(it.Agg), "(")
		w.column(it.Table, it.Name)
		w.put(")")
	}
}

// kindWord tells the word of a kind of columns; "": there is none.
func kindWord(kind int) string {
	switch kind {
	case api.Int:
		return "int"
	case api.Text:
		return "text"
	}
	return ""
}

// foldWord tells the word of a way to fold a column; "": there is none.
func foldWord(agg int) string {
	switch agg {
	case api.AggSum:
		return "sum"
	case api.AggMin:
		return "min"
	case api.AggMax:
		return "max"
	}
	return ""
}
