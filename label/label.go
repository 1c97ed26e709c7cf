// Package label: labels, which are sets of tags: see doc/01-label.md.
package label

import "quarantine/api"

// May tells whether l is a label: its tags rise, each once, and are at most MaxTags.
func May(l api.Label) bool {
	return len(l) <= api.MaxTags && rises(l)
}

// Norm tells the label of these tags; ErrLong: more than MaxTags unlike ones.
func Norm(l []uint16) (api.Label, api.Errno) {
	tags := ordered(l)
	if len(tags) > api.MaxTags {
		return nil, api.ErrLong
	}
	// ordered may hand l itself back, and the answer must be new memory.
	return append(api.Label(nil), tags...), api.OK
}

// Flows tells whether each tag of a is one of b.
func Flows(a, b api.Label) bool {
	return within(ordered(a), ordered(b))
}

// Join tells all tags of both: they may be more than a label may have.
func Join(a, b api.Label) api.Label {
	return merge(ordered(a), ordered(b), share{left: true, both: true, right: true})
}

// Meet tells the tags that both have.
func Meet(a, b api.Label) api.Label {
	return merge(ordered(a), ordered(b), share{both: true})
}

// Minus tells the tags of a that are none of b.
func Minus(a, b api.Label) api.Label {
	return merge(ordered(a), ordered(b), share{left: true})
}

// Compare tells -1, 0 or 1: fewer tags first; then tag by tag, the lesser one first.
func Compare(a, b api.Label) int {
	return compare(a, b)
}

// Put tells b and, behind it, l as bytes: how many tags, then each, the higher byte first.
func Put(b []byte, l api.Label) []byte {
	// Appending to b itself could write into its spare room.
	out := make([]byte, 0, len(b)+1+2*len(l))
	out = append(out, b...)
	out = append(out, byte(len(l)))
	for _, tag := range l {
		out = append(out, byte(tag>>8), byte(tag))
	}
	return out
}

// Take tells the label at b's beginning, and how many bytes it has.
func Take(b []byte) (l api.Label, n int, e api.Errno) {
	if len(b) == 0 {
		return nil, 0, api.ErrShort
	}
	many := int(b[0])
	if many > api.MaxTags {
		return nil, 0, api.ErrForm
	}
	n = 1 + 2*many
	if len(b) < n {
		return nil, 0, api.ErrShort
	}
	l = tagsOf(b[1:n])
	if !rises(l) {
		return nil, 0, api.ErrForm
	}
	return l, n, api.OK
}

// tagsOf reads each two bytes as a tag.
func tagsOf(b []byte) api.Label {
	var l api.Label
	for i := 0; i+1 < len(b); i += 2 {
		l = append(l, uint16(b[i])<<8|uint16(b[i+1]))
	}
	return l
}
