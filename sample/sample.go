// Package sample has what the tests of several packages ask with; the program itself does not call it.
package sample

// Bytes are n bytes that look like any, the same ones each time.
func Bytes(n int) []byte {
	b := make([]byte, n)
	state := uint32(n) + 12345
	for i := range b {
		state = state*1664525 + 1013904223
		b[i] = byte(state >> 24)
	}
	return b
}

// Draw makes numbers that look like any, the same ones each time.
type Draw struct{ left []byte }

// Draws are other numbers by another seed.
func Draws(seed int) *Draw { return &Draw{left: Bytes(1<<20 + seed)} }

// Next is a number of 64 bits.
func (d *Draw) Next() uint64 {
	if len(d.left) < 8 {
		d.left = Bytes(1 << 20)
	}
	var n uint64
	for _, b := range d.left[:8] {
		n = n<<8 | uint64(b)
	}
	d.left = d.left[8:]
	return n
}

// Below is a number from 0 to n - 1.
func (d *Draw) Below(n int) int { return int(d.Next() >> 8 % uint64(n)) }
