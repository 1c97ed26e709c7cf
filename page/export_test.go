package page

// Read tells the page whose bytes those are.
func Read(b []byte) *Page {
	p := New()
	copy(p.bytes[:], b)
	return p
}
