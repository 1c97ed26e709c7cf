package parse

import "quarantine/api"

// reader goes through words from the left, and never back: so the first fault that it meets is the one that is told.
type reader struct {
	words []api.Token // those that are yet to be read; the last is TokEnd, which is never read
	deep  int         // how many words of expressions what is to be read is within
	at    int         // the fault's place, once there is one
	e     api.Errno
}

// next tells the word that is to be read. Behind a fault it is of no kind: then nothing can be read any more, and all that is still open comes to its end.
func (r *reader) next() api.Token {
	if r.e != api.OK {
		return api.Token{}
	}
	return r.words[0]
}

// fail tells e of the word that is to be read, unless something was wrong ahead of it.
func (r *reader) fail(e api.Errno) {
	if r.e == api.OK {
		r.at, r.e = r.words[0].At, e
	}
}

// skip reads the next word, whatever it is.
func (r *reader) skip() {
	r.words = r.words[1:]
}

// is tells whether the next word is this one of the grammar's. Its kind is asked, too, for a text value may have the same bytes.
func (r *reader) is(word string) bool {
	t := r.next()
	return (t.Kind == api.TokWord || t.Kind == api.TokSign) && t.Text == word
}

// take reads this word, if it stands there, and tells whether it did.
func (r *reader) take(word string) bool {
	if !r.is(word) {
		return false
	}
	r.skip()
	return true
}

// want reads these words, one behind the other.
func (r *reader) want(words ...string) {
	for _, word := range words {
		if !r.take(word) {
			r.fail(api.ErrParse)
		}
	}
}

// choice is a word of the grammar, and the number that api has for it.
type choice struct {
	word  string
	means int
}

// oneOf reads one of these words, if one stands there, and tells what it means; 0: none did.
func (r *reader) oneOf(choices ...choice) int {
	for _, c := range choices {
		if r.take(c.word) {
			return c.means
		}
	}
	return 0
}

// kind reads a word of that kind.
func (r *reader) kind(kind int) api.Token {
	t := r.next()
	if t.Kind != kind {
		r.fail(api.ErrParse)
		return api.Token{}
	}
	r.skip()
	return t
}

func (r *reader) name() string {
	return r.kind(api.TokName).Text
}

// end asks that nothing is left.
func (r *reader) end() {
	if r.next().Kind != api.TokEnd {
		r.fail(api.ErrParse)
	}
}
