package schema

import (
	"slices"
	"strings"

	"quarantine/api"
)

// What is told shares no memory with what is handed in, however deep it lies: so each kind of thing has its copy here.

func copySchema(s api.Schema) api.Schema {
	return api.Schema{Tables: copies(s.Tables, copyTable), Views: copies(s.Views, copyView)}
}

func copyTable(t api.Table) api.Table {
	return api.Table{Name: strings.Clone(t.Name), Cols: copies(t.Cols, copyCol), Index: copies(t.Index, strings.Clone)}
}

func copyCol(c api.Col) api.Col {
	return api.Col{Name: strings.Clone(c.Name), Kind: c.Kind, Ref: strings.Clone(c.Ref)}
}

func copyView(v api.View) api.View {
	return api.View{Name: strings.Clone(v.Name), Strip: slices.Clone(v.Strip), Do: copyStmt(v.Do)}
}

func copyStmt(st api.Stmt) api.Stmt {
	return api.Stmt{
		Kind:   st.Kind,
		Table:  strings.Clone(st.Table),
		Name:   strings.Clone(st.Name),
		Cols:   copies(st.Cols, copyCol),
		Tags:   slices.Clone(st.Tags),
		Values: copies(st.Values, copyExpr),
		Items:  copies(st.Items, copyItem),
		Join:   strings.Clone(st.Join),
		On:     copies(st.On, copyExpr),
		Where:  copies(st.Where, copyExpr),
		Order:  copies(st.Order, copyExpr),
		Desc:   st.Desc,
		Inner:  copies(st.Inner, copyStmt),
	}
}

func copyExpr(e api.Expr) api.Expr {
	return api.Expr{
		Op:    e.Op,
		Value: api.Value{Kind: e.Value.Kind, Int: e.Value.Int, Text: strings.Clone(e.Value.Text)},
		Table: strings.Clone(e.Table),
		Name:  strings.Clone(e.Name),
		Args:  copies(e.Args, copyExpr),
	}
}

func copyItem(it api.Item) api.Item {
	return api.Item{Agg: it.Agg, Table: strings.Clone(it.Table), Name: strings.Clone(it.Name)}
}
