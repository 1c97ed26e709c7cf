package value

import "quarantine/api"

// The bytes around the keys of values.
const (
	intMark  = 1
	textMark = 2
	textEnd  = 0
)

// intLen is how many bytes the key of an Int has.
const intLen = 1 + 8

// turned is the bit that is turned in the key of an Int, so that numbers below nought stand ahead of the others.
const turned = uint64(1) << 63

// Key tells b and, behind it, v as bytes that stand as values do.
func Key(b []byte, v api.Value) []byte {
	// Appending to b itself could write into its spare room.
	out := make([]byte, 0, len(b)+intLen+len(v.Text))
	out = append(out, b...)
	switch v.Kind {
	case api.Int:
		out = append(out, intMark)
		out = putInt(out, v.Int)
	case api.Text:
		out = append(out, textMark)
		out = append(out, v.Text...)
		out = append(out, textEnd)
	}
	return out
}

// putInt appends the eight bytes of n, the highest first.
func putInt(b []byte, n int64) []byte {
	bits := uint64(n) ^ turned
	for shift := 56; shift >= 0; shift -= 8 {
		b = append(b, byte(bits>>shift))
	}
	return b
}

// Take tells the value at b's beginning, and how many bytes it has.
func Take(b []byte) (v api.Value, n int, e api.Errno) {
	if len(b) == 0 {
		return api.Value{}, 0, api.ErrShort
	}
	switch b[0] {
	case intMark:
		return takeInt(b)
	case textMark:
		return takeText(b)
	}
	return api.Value{}, 0, api.ErrForm
}

// takeInt reads the key of an Int, whose mark is there.
func takeInt(b []byte) (v api.Value, n int, e api.Errno) {
	if len(b) < intLen {
		return api.Value{}, 0, api.ErrShort
	}
	var bits uint64
	for _, c := range b[1:intLen] {
		bits = bits<<8 | uint64(c)
	}
	return api.Value{Kind: api.Int, Int: int64(bits ^ turned)}, intLen, api.OK
}

// takeText reads the key of a Text, whose mark is there.
func takeText(b []byte) (v api.Value, n int, e api.Errno) {
	// Byte by byte: what may not be is told where it is met, though the end may not be there.
	for i, c := range b[1:] {
		if c == textEnd {
			return api.Value{Kind: api.Text, Text: string(b[1 : 1+i])}, i + 2, api.OK
		}
		if i == api.MaxLetter || !mayByte(c) {
			return api.Value{}, 0, api.ErrForm
		}
	}
	return api.Value{}, 0, api.ErrShort
}
