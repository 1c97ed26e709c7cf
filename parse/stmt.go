package parse

import (
	"math"

	"quarantine/api"
)

func (r *reader) stmt() api.Stmt {
	switch {
	case r.take("create"):
		return r.create()
	case r.is("select"):
		return r.query()
	case r.take("begin"):
		return api.Stmt{Kind: api.StBegin}
	case r.take("commit"):
		return api.Stmt{Kind: api.StCommit}
	case r.take("rollback"):
		return api.Stmt{Kind: api.StRollback}
	case r.take("raise"):
		return api.Stmt{Kind: api.StRaise, Tags: list(r, r.tag)}
	case r.take("call"):
		return api.Stmt{Kind: api.StCall, Name: r.name()}
	}
	return r.change()
}

// change reads a statement that writes rows.
func (r *reader) change() api.Stmt {
	switch {
	case r.take("insert"):
		return r.insert()
	case r.take("update"):
		return r.update()
	case r.take("delete"):
		return r.delete()
	}
	r.fail(api.ErrParse)
	return api.Stmt{}
}

// create reads what stands behind "create".
func (r *reader) create() api.Stmt {
	switch {
	case r.take("table"):
		return r.table()
	case r.take("index"):
		return r.index()
	case r.take("view"):
		return r.door(api.StView, r.query)
	case r.take("closure"):
		return r.door(api.StClosure, r.change)
	}
	r.fail(api.ErrParse)
	return api.Stmt{}
}

func (r *reader) table() api.Stmt {
	st := api.Stmt{Kind: api.StTable}
	st.Name = r.name()
	st.Cols = bracketed(r, r.col)
	return st
}

func (r *reader) col() api.Col {
	var c api.Col
	c.Name = r.name()
	c.Kind = r.oneOf(choice{"int", api.Int}, choice{"text", api.Text})
	if c.Kind == 0 {
		r.fail(api.ErrParse)
	}
	if r.take("ref") {
		c.Ref = r.name()
	}
	return c
}

func (r *reader) index() api.Stmt {
	st := api.Stmt{Kind: api.StIndex}
	r.want("on")
	st.Table = r.name()
	r.want("(")
	st.Name = r.name()
	r.want(")")
	return st
}

// door reads a view or a closure, which differ in the statements that they may have.
func (r *reader) door(kind int, inner func() api.Stmt) api.Stmt {
	st := api.Stmt{Kind: kind}
	st.Name = r.name()
	r.want("strip")
	if r.next().Kind == api.TokNumber {
		st.Tags = list(r, r.tag)
	}
	r.want("as")
	st.Inner = []api.Stmt{inner()}
	return st
}

func (r *reader) tag() uint16 {
	// Asked ahead of reading it, so that the fault is told at this word.
	if t := r.next(); t.Kind == api.TokNumber && t.Int > math.MaxUint16 {
		r.fail(api.ErrForm)
	}
	return uint16(r.kind(api.TokNumber).Int)
}

func (r *reader) insert() api.Stmt {
	st := api.Stmt{Kind: api.StInsert}
	r.want("into")
	st.Table = r.name()
	r.want("values")
	st.Values = bracketed(r, r.expr)
	return st
}

func (r *reader) update() api.Stmt {
	st := api.Stmt{Kind: api.StUpdate}
	st.Table = r.name()
	r.want("set")
	st.Name = r.name()
	r.want("=")
	st.Values = []api.Expr{r.expr()}
	st.Where = behind(r, "where", r.expr)
	return st
}

func (r *reader) delete() api.Stmt {
	st := api.Stmt{Kind: api.StDelete}
	r.want("from")
	st.Table = r.name()
	st.Where = behind(r, "where", r.expr)
	return st
}

// query reads a select.
func (r *reader) query() api.Stmt {
	st := api.Stmt{Kind: api.StSelect}
	r.want("select")
	if !r.take("*") {
		st.Items = list(r, r.item)
	}
	r.want("from")
	st.Table = r.name()
	if r.take("join") {
		st.Join = r.name()
		st.On = r.on()
	}
	st.Where = behind(r, "where", r.expr)
	if r.take("order") {
		st.Order = r.order()
		st.Desc = r.take("desc")
	}
	return st
}

// on reads which two columns a join holds against each other.
func (r *reader) on() []api.Expr {
	r.want("on")
	left := r.column()
	r.want("=")
	return []api.Expr{left, r.column()}
}

func (r *reader) order() []api.Expr {
	r.want("by")
	return []api.Expr{r.column()}
}

func (r *reader) item() api.Item {
	if r.take("count") {
		r.want("(", "*", ")")
		return api.Item{Agg: api.AggCount}
	}
	agg := r.oneOf(choice{"sum", api.AggSum}, choice{"min", api.AggMin}, choice{"max", api.AggMax})
	if agg == api.AggNone {
		return itemOf(api.AggNone, r.column())
	}
	r.want("(")
	it := itemOf(agg, r.column())
	r.want(")")
	return it
}

func itemOf(agg int, column api.Expr) api.Item {
	return api.Item{Agg: agg, Table: column.Table, Name: column.Name}
}
