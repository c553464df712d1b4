// Package bits has rows of bits, and numbers in as few bytes as they need (layer 1).
package bits

import (
	mathbits "math/bits"

	"manometer/api"
)

// maxBytes is how many bytes a number has at most: seven bits in each of nine, and one in the tenth.
const maxBytes = 10

// Writer is a row of bits that is written.
type Writer struct {
	made bool // tells the row of NewWriter from a zero value
	row  []byte
	size int
}

// Reader is a row of bits that is read.
type Reader struct {
	made bool // tells the row of NewReader from a zero value
	row  []byte
	at   int
	size int
}

// NewWriter is a row without bits.
func NewWriter() *Writer { return &Writer{made: true} }

// Put lays the width lowest bits of n behind the others, the highest one first.
func (w *Writer) Put(n uint64, width int) api.Errno {
	if w == nil || !w.made {
		return api.ErrMade
	}
	if width < 0 || width > 64 || n>>width != 0 {
		return api.ErrArg
	}
	if width > api.MaxBits-w.size {
		return api.ErrFull
	}
	into := func(part byte, count int) {
		if w.size%8 == 0 {
			w.row = append(w.row, 0)
		}
		// Moved left first, the part loses the bits above it, which lie in the row already.
		w.row[w.size/8] |= part << (8 - count) >> (w.size % 8)
		w.size += count
	}
	for left := width; left > 0; {
		count := min(left, 8-w.size%8)
		left -= count
		into(byte(n>>left), count)
	}
	return api.OK
}

// Len is how many bits the row has.
func (w *Writer) Len() int {
	if w == nil {
		return 0
	}
	return w.size
}

// Bytes are the row's bits, eight in a byte, in memory of their own.
func (w *Writer) Bytes() []byte {
	if w == nil {
		return nil
	}
	return copied(w.row)
}

// Clone is another row of the same bits.
func (w *Writer) Clone() *Writer {
	if w == nil || !w.made {
		return nil
	}
	return &Writer{made: true, row: copied(w.row), size: w.size}
}

// NewReader is a row of the first n bits of b.
func NewReader(b []byte, n int) (*Reader, api.Errno) {
	if n < 0 {
		return nil, api.ErrArg
	}
	whole := n / 8 // told so, for 8 times the bytes, or n and 7, could run over
	if n%8 != 0 {
		whole++
	}
	if whole > len(b) {
		return nil, api.ErrArg
	}
	return &Reader{made: true, row: copied(b[:whole]), size: n}, api.OK
}

// Get takes the next width bits as a number, the first one highest.
func (r *Reader) Get(width int) (uint64, api.Errno) {
	if r == nil || !r.made {
		return 0, api.ErrMade
	}
	if width < 0 || width > 64 {
		return 0, api.ErrArg
	}
	if width > r.Left() {
		return 0, api.ErrShort
	}
	var n uint64
	for left := width; left > 0; {
		taken := r.at % 8
		count := min(left, 8-taken)
		n = n<<count | uint64(r.row[r.at/8]<<taken>>(8-count))
		r.at += count
		left -= count
	}
	return n, api.OK
}

// Left is how many bits may still be got.
func (r *Reader) Left() int {
	if r == nil {
		return 0
	}
	return r.size - r.at
}

// Clone is another row of the same bits, at the same place.
func (r *Reader) Clone() *Reader {
	if r == nil || !r.made {
		return nil
	}
	return &Reader{made: true, row: copied(r.row), at: r.at, size: r.size}
}

// PutUvarint is n with seven bits in each byte, the lowest ones first.
func PutUvarint(n uint64) []byte {
	var b []byte
rest:
	for {
		low := byte(n & 0x7f)
		n >>= 7
		switch n {
		case 0:
			b = append(b, low)
			break rest
		default:
			b = append(b, low|0x80)
		}
	}
	return b
}

// Uvarint is the number that b begins with, and how many bytes it has.
func Uvarint(b []byte) (uint64, int, api.Errno) {
	var n uint64
	size := 0
number:
	for i := range min(len(b), maxBytes) {
		n |= uint64(b[i]&0x7f) << (7 * i)
		switch {
		case i == maxBytes-1 && b[i] > 1: // just one bit of 64 is left for it
			return 0, 0, api.ErrOver
		case b[i] < 0x80:
			size = i + 1
			break number
		}
	}
	if size == 0 {
		return 0, 0, api.ErrShort
	}
	if size > 1 && b[size-1] == 0 { // fewer bytes say the same
		return 0, 0, api.ErrForm
	}
	return n, size, api.OK
}

// PutVarint is n in bytes as PutUvarint has them, few of them if n is near 0.
func PutVarint(n int64) []byte { return PutUvarint(Zig(n)) }

// Varint is the number that b begins with as PutVarint makes it, and how many bytes it has.
func Varint(b []byte) (int64, int, api.Errno) {
	n, size, err := Uvarint(b)
	return Zag(n), size, err
}

// Zig is 2 n of n from 0 on, else -2 n - 1.
func Zig(n int64) uint64 {
	if n < 0 {
		return ^(uint64(n) << 1)
	}
	return uint64(n) << 1
}

// Zag is the number that Zig makes n of.
func Zag(n uint64) int64 {
	if n%2 == 1 {
		return ^int64(n >> 1)
	}
	return int64(n >> 1)
}

// Lead is how many bits 0 n has above its highest 1.
func Lead(n uint64) int { return mathbits.LeadingZeros64(n) }

// Trail is how many bits 0 n has below its lowest 1.
func Trail(n uint64) int { return mathbits.TrailingZeros64(n) }

// copied is b in memory of its own, so that nobody else can change what a row has.
func copied(b []byte) []byte { return append([]byte(nil), b...) }
