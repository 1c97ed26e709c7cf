package show

// list writes each of l, with a comma behind each but the last.
func list[T any](w *writer, l []T, one func(T)) {
	for i, x := range l {
		if i > 0 {
			w.put(",")
		}
		one(x)
	}
}

// bracketed writes a list in brackets.
func bracketed[T any](w *writer, l []T, one func(T)) {
	w.open()
	list(w, l, one)
	w.close()
}

// behind writes a list behind these words; of an empty one not even the words.
func behind[T any](w *writer, l []T, one func(T), words ...string) {
	if len(l) > 0 {
		w.words(words...)
		list(w, l, one)
	}
}

// all tells whether each of l is such a one.
func all[T any](l []T, such func(T) bool) bool {
	for _, x := range l {
		if !such(x) {
			return false
		}
	}
	return true
}
