package lex

import (
	"strings"

	"quarantine/api"
	"quarantine/num"
)

// reader goes through a text byte by byte, and never back: so the first fault that it meets is the one that is told.
type reader struct {
	text string
	at   int
}

// next tells whether the byte that is to be read is such a one.
func (r *reader) next(such func(c byte) bool) bool {
	return r.at < len(r.text) && such(r.text[r.at])
}

// take reads a byte, if it is such a one, and tells whether it was.
func (r *reader) take(such func(c byte) bool) bool {
	if !r.next(such) {
		return false
	}
	r.at++
	return true
}

// skip reads all bytes to the first that is no such one.
func (r *reader) skip(such func(c byte) bool) {
	for r.take(such) {
	}
}

// since tells what was read from there on: a copy, for a piece of the text would keep all of it.
func (r *reader) since(from int) string {
	return strings.Clone(r.text[from:r.at])
}

// word reads the spaces that stand there, and a word; beside an error it tells the fault's place.
func (r *reader) word() (t api.Token, at int, e api.Errno) {
	r.skip(is(' '))
	switch {
	case r.at == len(r.text):
		return api.Token{Kind: api.TokEnd, At: r.at}, 0, api.OK
	case r.next(letter):
		return r.name()
	case r.next(digit):
		return r.number()
	case r.next(is(mark)):
		return r.quoted()
	}
	return r.sign()
}

// name reads a name, or a word that is none.
func (r *reader) name() (t api.Token, at int, e api.Errno) {
	from := r.at
	r.skip(ofName)
	if r.at-from > api.MaxName {
		return api.Token{}, from, api.ErrLong
	}
	name, kind := r.since(from), api.TokName
	if noName(name) {
		kind = api.TokWord
	}
	return api.Token{Kind: kind, Text: name, At: from}, 0, api.OK
}

func (r *reader) number() (t api.Token, at int, e api.Errno) {
	from := r.at
	r.skip(digit)
	// Asked ahead of what the digits come to: the letter is told though they run over.
	if r.next(letter) {
		return api.Token{}, r.at, api.ErrLex
	}
	n, e := num.Parse(r.text[from:r.at])
	if e != api.OK {
		return api.Token{}, from, e
	}
	return api.Token{Kind: api.TokNumber, Int: n, At: from}, 0, api.OK
}

// quoted reads a text value, whose first mark is there.
func (r *reader) quoted() (t api.Token, at int, e api.Errno) {
	from := r.at
	r.at++
	var text []byte
	for !r.closed() {
		if !r.take(ofText) {
			return api.Token{}, r.at, api.ErrLex
		}
		text = append(text, r.text[r.at-1])
	}
	// Asked behind the end: a fault within the text is told though it is too long.
	if len(text) > api.MaxLetter {
		return api.Token{}, from, api.ErrLong
	}
	return api.Token{Kind: api.TokText, Text: string(text), At: from}, 0, api.OK
}

// closed reads a mark, if one is there, and tells whether it ends the text value. One that stands ahead of another does not: that other one is then the byte that is to be read.
func (r *reader) closed() bool {
	return r.take(is(mark)) && !r.next(is(mark))
}

// sign reads a sign, the longest that stands there.
func (r *reader) sign() (t api.Token, at int, e api.Errno) {
	from := r.at
	switch {
	case r.take(is('<')):
		r.take(ofTwo('=', '>'))
	case r.take(is('>')):
		r.take(is('='))
	case !r.take(lone):
		return api.Token{}, from, api.ErrLex
	}
	return api.Token{Kind: api.TokSign, Text: r.since(from), At: from}, 0, api.OK
}
