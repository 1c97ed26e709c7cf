package show

// writer puts a text together from the left. Whoever writes a word need not know what stands ahead of it.
type writer struct {
	text   []byte
	spaced bool // whether a word that comes now has a space ahead of it: the first has none, nor has one right behind a bracket
}

// put writes these pieces as they are, right behind what is there.
func (w *writer) put(pieces ...string) {
	for _, s := range pieces {
		w.text = append(w.text, s...)
	}
}

// space writes what stands ahead of a word.
func (w *writer) space() {
	if w.spaced {
		w.put(" ")
	}
	w.spaced = true
}

func (w *writer) word(s string) {
	w.space()
	w.put(s)
}

func (w *writer) words(words ...string) {
	for _, s := range words {
		w.word(s)
	}
}

// open writes a bracket that stands right behind the word ahead of it.
func (w *writer) open() {
	w.put("(")
	w.spaced = false
}

func (w *writer) close() {
	w.put(")")
	w.spaced = true
}
