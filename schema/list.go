package schema

import (
	"slices"

	"quarantine/api"
)

// list is a list whose members are found by a name that each has; the first, where more than one has it.
type list[T any] struct {
	all  []T
	name func(T) string
	copy func(T) T
}

func tables(s api.Schema) list[api.Table] {
	return list[api.Table]{s.Tables, func(t api.Table) string { return t.Name }, copyTable}
}

func views(s api.Schema) list[api.View] {
	return list[api.View]{s.Views, func(v api.View) string { return v.Name }, copyView}
}

func columns(l []api.Col) list[api.Col] {
	return list[api.Col]{l, func(c api.Col) string { return c.Name }, copyCol}
}

// refs finds columns by the table that they refer to.
func refs(l []api.Col) list[api.Col] {
	return list[api.Col]{l, func(c api.Col) string { return c.Ref }, copyCol}
}

// place tells where the one of that name stands; -1: there is none.
func (l list[T]) place(name string) int {
	return slices.IndexFunc(l.all, func(x T) bool { return l.name(x) == name })
}

func (l list[T]) has(name string) bool {
	return l.place(name) >= 0
}

// find tells the one of that name, as new memory.
func (l list[T]) find(name string) (x T, ok bool) {
	i := l.place(name)
	if i < 0 {
		return x, false
	}
	return l.copy(l.all[i]), true
}

// with tells all of l, and x behind them, as new memory.
func (l list[T]) with(x T) []T {
	return append(copies(l.all, l.copy), l.copy(x))
}

// copies tells a list of copies, each made by one.
func copies[T any](l []T, one func(T) T) []T {
	var out []T
	for _, x := range l {
		out = append(out, one(x))
	}
	return out
}
