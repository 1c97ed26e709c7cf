package parse

// list reads one thing, and one more behind each comma.
func list[T any](r *reader, one func() T) []T {
	l := []T{one()}
	for r.take(",") {
		l = append(l, one())
	}
	return l
}

// bracketed reads a list in brackets.
func bracketed[T any](r *reader, one func() T) []T {
	r.want("(")
	l := list(r, one)
	r.want(")")
	return l
}

// behind reads one thing behind that word, if the word stands there: a list of one, or of none.
func behind[T any](r *reader, word string, one func() T) []T {
	if !r.take(word) {
		return nil
	}
	return []T{one()}
}
