package parse

import "quarantine/api"

func (r *reader) expr() api.Expr {
	return r.chain(r.and, choice{"or", api.ExOr})
}

func (r *reader) and() api.Expr {
	return r.chain(r.not, choice{"and", api.ExAnd})
}

func (r *reader) not() api.Expr {
	if r.is("not") {
		return ofOne(api.ExNot, r.within(r.not))
	}
	return r.comp()
}

// comp reads at most one comparison: a second in a row is left, and nothing takes it.
func (r *reader) comp() api.Expr {
	left := r.sum()
	op := r.oneOf(
		choice{"=", api.ExEq}, choice{"<>", api.ExNe}, choice{"<", api.ExLt},
		choice{"<=", api.ExLe}, choice{">", api.ExGt}, choice{">=", api.ExGe})
	if op == 0 {
		return left
	}
	return ofTwo(op, left, r.sum())
}

func (r *reader) sum() api.Expr {
	return r.chain(r.term, choice{"+", api.ExAdd}, choice{"-", api.ExSub})
}

func (r *reader) term() api.Expr {
	return r.chain(r.unary, choice{"*", api.ExMul})
}

func (r *reader) unary() api.Expr {
	switch {
	case r.is("-"):
		return ofOne(api.ExNeg, r.within(r.unary))
	case r.is("("):
		x := r.within(r.expr)
		r.want(")")
		return x
	}
	switch r.next().Kind {
	case api.TokNumber:
		n := r.kind(api.TokNumber).Int
		return api.Expr{Op: api.ExLit, Value: api.Value{Kind: api.Int, Int: n}}
	case api.TokText:
		s := r.kind(api.TokText).Text
		return api.Expr{Op: api.ExLit, Value: api.Value{Kind: api.Text, Text: s}}
	}
	return r.column()
}

// column reads a column, with its table if a point stands behind the first name.
func (r *reader) column() api.Expr {
	x := api.Expr{Op: api.ExCol}
	x.Name = r.name()
	if r.take(".") {
		x.Table = x.Name
		x.Name = r.name()
	}
	return x
}

// chain reads parts with one of these words between each two. It goes from the left, so that all that is read so far is what the next word has on its left.
func (r *reader) chain(part func() api.Expr, between ...choice) api.Expr {
	x := part()
	for op := r.oneOf(between...); op != 0; op = r.oneOf(between...) {
		x = ofTwo(op, x, part())
	}
	return x
}

// within reads the word that stands there, and a part that is one deeper than it.
func (r *reader) within(part func() api.Expr) api.Expr {
	if r.deep == api.MaxNest {
		r.fail(api.ErrDeep)
		return api.Expr{}
	}
	r.skip()
	r.deep++
	x := part()
	r.deep--
	return x
}

func ofOne(op int, x api.Expr) api.Expr {
	return api.Expr{Op: op, Args: []api.Expr{x}}
}

func ofTwo(op int, left, right api.Expr) api.Expr {
	return api.Expr{Op: op, Args: []api.Expr{left, right}}
}
