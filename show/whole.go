package show

import "quarantine/api"

// whole tells whether the words of st's kind have a place for each member of its lists, and a member for each place. Without that, what could be written would be no statement's text.
func whole(st api.Stmt) bool {
	switch st.Kind {
	case api.StTable:
		return len(st.Cols) > 0 && all(st.Cols, wholeCol)
	case api.StView:
		return len(st.Inner) == 1 && all(st.Inner, isQuery) && all(st.Inner, whole)
	case api.StClosure:
		return len(st.Inner) == 1 && all(st.Inner, isChange) && all(st.Inner, whole)
	case api.StInsert:
		return len(st.Values) > 0
	case api.StSelect:
		return all(st.Items, wholeItem) && wholeJoin(st) && len(st.Where) <= 1 && wholeOrder(st)
	case api.StUpdate:
		return len(st.Values) == 1 && len(st.Where) <= 1
	case api.StDelete:
		return len(st.Where) <= 1
	case api.StRaise:
		return len(st.Tags) > 0
	case api.StIndex, api.StBegin, api.StCommit, api.StRollback, api.StCall:
		return true
	}
	return false
}

func wholeCol(c api.Col) bool {
	return kindWord(c.Kind) != ""
}

func wholeItem(it api.Item) bool {
	return it.Agg == api.AggNone || it.Agg == api.AggCount || foldWord(it.Agg) != ""
}

func wholeJoin(st api.Stmt) bool {
	if st.Join == "" {
		return len(st.On) == 0
	}
	return len(st.On) == 2 && all(st.On, isColumn)
}

func wholeOrder(st api.Stmt) bool {
	if len(st.Order) == 0 {
		return !st.Desc
	}
	return len(st.Order) == 1 && all(st.Order, isColumn)
}

func isColumn(e api.Expr) bool {
	return e.Op == api.ExCol
}

func isQuery(st api.Stmt) bool {
	return st.Kind == api.StSelect
}

// isChange tells whether st writes rows.
func isChange(st api.Stmt) bool {
	return st.Kind == api.StInsert || st.Kind == api.StUpdate || st.Kind == api.StDelete
}
