package lex

import "strings"

// mark is the byte at both ends of a text value.
const mark = '\''

// is makes a question: is it this byte?
func is(c byte) func(byte) bool {
	return func(other byte) bool { return other == c }
}

// ofTwo makes a question: is it one of these two bytes?
func ofTwo(a, b byte) func(byte) bool {
	return func(c byte) bool { return c == a || c == b }
}

// letter tells whether c may begin a name.
func letter(c byte) bool {
	return 'a' <= c && c <= 'z' || c == '_'
}

func digit(c byte) bool {
	return '0' <= c && c <= '9'
}

func ofName(c byte) bool {
	return letter(c) || digit(c)
}

// ofText tells whether a text value may have c.
func ofText(c byte) bool {
	return 32 <= c && c <= 126
}

// lone tells whether c is a sign that begins no longer one.
func lone(c byte) bool {
	return strings.IndexByte("(),.=+-*", c) >= 0
}

// noName tells whether s is a word of statements, which nothing may have as its name.
func noName(s string) bool {
	switch s {
	case "and", "as", "begin", "by", "call", "closure", "commit", "count", "create", "delete", "desc", "from", "group",
		"index", "insert", "int", "into", "join", "max", "min", "not", "on", "or", "order", "raise", "ref", "rollback",
		"select", "set", "strip", "sum", "table", "text", "update", "values", "view", "where":
		return true
	}
	return false
}
