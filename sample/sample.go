// Package sample has what the tests of several packages ask with; the program itself does not call it.
package sample

// Bytes are n bytes that look like any, the same ones each time.
func Bytes(n int) []byte {
	b := make([]byte, n)
	state := uint32(n) + 12345
	for i := range b {
		state = state*1664525 + 1013904223
		b[i] = byte(state >> 24)
	}
	return b
}
