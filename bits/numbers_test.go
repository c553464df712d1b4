package bits_test

import (
	"bytes"
	"math"
	"slices"
	"testing"

	"manometer/api"
	"manometer/bits"
)

// edges are numbers around each power of 2, by rising size, and some that look like any.
func edges() []uint64 {
	l := []uint64{0, math.MaxUint64}
	for i := range 64 {
		l = append(l, 1<<i-1, 1<<i, 1<<i+1)
	}
	d := draw(5)
	for i := range 500 {
		l = append(l, d.next()>>(i%64))
	}
	slices.Sort(l)
	return l
}

// plainSize is how many times seven bits n needs, at least once.
func plainSize(n uint64) int {
	size := 1
	for n >= 128 {
		n /= 128
		size++
	}
	return size
}

func mustUvarint(t *testing.T, b []byte, want uint64, size int) {
	t.Helper()
	if n, k, e := bits.Uvarint(b); n != want || k != size || e != api.OK {
		t.Fatalf("Uvarint(%x): %d %d %d, want %d %d", b, n, k, e, want, size)
	}
}

// mustFail asks both Uvarint and Varint, which has the same errors.
func mustFail(t *testing.T, b []byte, want api.Errno) {
	t.Helper()
	if n, k, e := bits.Uvarint(b); n != 0 || k != 0 || e != want {
		t.Fatalf("Uvarint(%x): %d %d %d, want error %d", b, n, k, e, want)
	}
	if n, k, e := bits.Varint(b); n != 0 || k != 0 || e != want {
		t.Fatalf("Varint(%x): %d %d %d, want error %d", b, n, k, e, want)
	}
}

// behind is count bytes x, and then tail.
func behind(x byte, count int, tail ...byte) []byte {
	return append(bytes.Repeat([]byte{x}, count), tail...)
}

// P1.3

func TestPutUvarintBytes(t *testing.T) {
	for _, c := range []struct {
		n uint64
		b []byte
	}{
		{0, []byte{0}},
		{1, []byte{1}},
		{127, []byte{0x7f}},
		{128, []byte{0x80, 1}},
		{300, []byte{0xac, 2}},
		{16383, []byte{0xff, 0x7f}},
		{16384, []byte{0x80, 0x80, 1}},
		{1<<63 - 1, behind(0xff, 8, 0x7f)},
		{1 << 63, behind(0x80, 9, 1)},
		{math.MaxUint64, behind(0xff, 9, 1)},
	} {
		if b := bits.PutUvarint(c.n); !bytes.Equal(b, c.b) {
			t.Errorf("PutUvarint(%d): %x, want %x", c.n, b, c.b)
		}
		mustUvarint(t, c.b, c.n, len(c.b))
	}
}

func TestPutUvarintSizes(t *testing.T) {
	seen := map[int]bool{}
	for _, n := range edges() {
		b := bits.PutUvarint(n)
		if len(b) != plainSize(n) {
			t.Fatalf("PutUvarint(%d): %x", n, b)
		}
		for i, x := range b {
			if x&0x7f != byte(n>>(7*i))&0x7f || x >= 0x80 != (i < len(b)-1) {
				t.Fatalf("PutUvarint(%d): %x", n, b)
			}
		}
		seen[len(b)] = true
	}
	if len(seen) != 10 {
		t.Fatal("not all sizes were met", seen)
	}
}

func TestPutUvarintIsItsOwnMemory(t *testing.T) {
	for _, n := range []uint64{0, 5, 300} {
		a, b := bits.PutUvarint(n), bits.PutUvarint(n)
		want := slices.Clone(b)
		for i := range a {
			a[i] = 0x55
		}
		if !bytes.Equal(b, want) || !bytes.Equal(bits.PutUvarint(n), want) {
			t.Fatalf("two answers of %d share memory", n)
		}
	}
}

func TestUvarintLeavesWhatStandsBehind(t *testing.T) {
	for _, n := range edges() {
		b := bits.PutUvarint(n)
		for _, tail := range [][]byte{{0}, {0xff}, {1}, behind(0xff, 12), behind(0, 12)} {
			mustUvarint(t, append(slices.Clone(b), tail...), n, len(b))
		}
	}
	mustUvarint(t, behind(5, 1, behind(0xff, 9)...), 5, 1)
	mustUvarint(t, behind(0x81, 1, behind(2, 9)...), 257, 2)
}

func TestUvarintShort(t *testing.T) {
	mustFail(t, nil, api.ErrShort)
	mustFail(t, []byte{}, api.ErrShort)
	for size := 1; size < 10; size++ {
		for _, x := range []byte{0x80, 0x81, 0xff} {
			mustFail(t, behind(x, size), api.ErrShort)
		}
	}
	for _, n := range edges() {
		b := bits.PutUvarint(n)
		for size := range b {
			mustFail(t, b[:size], api.ErrShort) // the bytes behind stand in memory, but not in the list
		}
	}
}

func TestUvarintOver(t *testing.T) {
	for _, x := range []byte{0x80, 0xff} {
		for _, size := range []int{10, 11, 20} {
			mustFail(t, behind(x, size), api.ErrOver)
		}
		mustFail(t, behind(x, 10, 0), api.ErrOver)
		mustFail(t, behind(x, 10, 1), api.ErrOver)
		for last := 2; last < 256; last++ {
			mustFail(t, behind(x, 9, byte(last)), api.ErrOver)
			mustFail(t, behind(x, 9, byte(last), 0), api.ErrOver)
		}
	}
}

func TestUvarintForm(t *testing.T) {
	for size := 1; size < 10; size++ {
		for _, x := range []byte{0x80, 0x81, 0xff} {
			mustFail(t, behind(x, size, 0), api.ErrForm)
			mustFail(t, behind(x, size, 0, 7), api.ErrForm)
			mustUvarint(t, behind(x, size, 1), number(behind(x, size, 1)), size+1)
		}
	}
	mustUvarint(t, []byte{0}, 0, 1) // one byte may be 0
	mustUvarint(t, []byte{0, 0}, 0, 1)
}

// number is what the lowest seven bits of the bytes come to, the lowest ones first.
func number(b []byte) uint64 {
	var n uint64
	for i := len(b) - 1; i >= 0; i-- {
		n = n<<7 | uint64(b[i]&0x7f)
	}
	return n
}

func TestUvarintChangesNothing(t *testing.T) {
	for _, b := range [][]byte{{0xac, 2, 9}, {0x80, 0}, {0x80}, behind(0xff, 12)} {
		was := slices.Clone(b)
		bits.Uvarint(b)
		bits.Varint(b)
		if !bytes.Equal(b, was) {
			t.Fatalf("%x became %x", was, b)
		}
	}
}

// P1.4

func TestZigAndZag(t *testing.T) {
	for _, c := range []struct {
		n int64
		u uint64
	}{
		{0, 0}, {-1, 1}, {1, 2}, {-2, 3}, {2, 4}, {150, 300}, {-151, 301},
		{math.MaxInt32, 1<<32 - 2}, {math.MinInt32, 1<<32 - 1},
		{math.MaxInt64 - 1, math.MaxUint64 - 3}, {math.MinInt64 + 1, math.MaxUint64 - 2},
		{math.MaxInt64, math.MaxUint64 - 1}, {math.MinInt64, math.MaxUint64},
	} {
		if bits.Zig(c.n) != c.u || bits.Zag(c.u) != c.n {
			t.Errorf("Zig(%d): %d; Zag(%d): %d", c.n, bits.Zig(c.n), c.u, bits.Zag(c.u))
		}
	}
}

func TestPutVarintBytes(t *testing.T) {
	for _, c := range []struct {
		n int64
		b []byte
	}{
		{0, []byte{0}},
		{-1, []byte{1}},
		{1, []byte{2}},
		{-2, []byte{3}},
		{-64, []byte{0x7f}},
		{64, []byte{0x80, 1}},
		{150, []byte{0xac, 2}},
		{math.MaxInt64, behind(0xfe, 1, behind(0xff, 8, 1)...)},
		{math.MinInt64, behind(0xff, 9, 1)},
	} {
		if b := bits.PutVarint(c.n); !bytes.Equal(b, c.b) {
			t.Errorf("PutVarint(%d): %x, want %x", c.n, b, c.b)
		}
		for _, tail := range [][]byte{nil, {0}, behind(0xff, 12)} {
			b := append(slices.Clone(c.b), tail...)
			if n, k, e := bits.Varint(b); n != c.n || k != len(c.b) || e != api.OK {
				t.Errorf("Varint(%x): %d %d %d", b, n, k, e)
			}
		}
	}
}

func TestPutVarintIsPutUvarintOfZig(t *testing.T) {
	for _, u := range edges() {
		n := int64(u)
		if !bytes.Equal(bits.PutVarint(n), bits.PutUvarint(bits.Zig(n))) {
			t.Fatal(n)
		}
	}
}

func TestLeadAndTrail(t *testing.T) {
	if bits.Lead(0) != 64 || bits.Trail(0) != 64 {
		t.Fatal(bits.Lead(0), bits.Trail(0))
	}
	d := draw(6)
	for i := range 64 {
		one, any := uint64(1)<<i, d.next()
		for _, n := range []uint64{one, one | lowest(any, i), one | (one - 1)} {
			if bits.Lead(n) != 63-i {
				t.Fatalf("Lead(%#x): %d", n, bits.Lead(n))
			}
		}
		for _, n := range []uint64{one, one | any<<i, -one} {
			if bits.Trail(n) != i {
				t.Fatalf("Trail(%#x): %d", n, bits.Trail(n))
			}
		}
	}
}

// P1.5

func TestNumbersThereAndBack(t *testing.T) {
	for _, u := range edges() {
		b := bits.PutUvarint(u)
		mustUvarint(t, b, u, len(b))
		for _, n := range []int64{int64(u), -int64(u)} {
			b := bits.PutVarint(n)
			if got, k, e := bits.Varint(b); got != n || k != len(b) || e != api.OK {
				t.Fatalf("Varint of PutVarint(%d): %d %d %d", n, got, k, e)
			}
		}
	}
}

// P1.6

func mustBeOneForm(t *testing.T, b []byte) {
	t.Helper()
	n, k, e := bits.Uvarint(b)
	if e == api.OK && (k < 1 || k > len(b) || !bytes.Equal(bits.PutUvarint(n), b[:k])) {
		t.Fatalf("Uvarint(%x): %d %d, but PutUvarint of it is %x", b, n, k, bits.PutUvarint(n))
	}
	v, k, e := bits.Varint(b)
	if e == api.OK && (k < 1 || k > len(b) || !bytes.Equal(bits.PutVarint(v), b[:k])) {
		t.Fatalf("Varint(%x): %d %d, but PutVarint of it is %x", b, v, k, bits.PutVarint(v))
	}
}

func TestOneForm(t *testing.T) {
	for i := range 1 << 16 {
		mustBeOneForm(t, []byte{byte(i >> 8), byte(i)})
	}
	d := draw(7)
	for range 20000 {
		b := behind(0x80, int(d.next()%10), byte(d.next()%4), byte(d.next()))
		for i := range b {
			b[i] |= byte(d.next()) & byte(d.next()) & 0x7f
		}
		mustBeOneForm(t, b)
	}
}

func TestLesserNumbersHaveNoMoreBytes(t *testing.T) {
	size := 0
	for _, n := range edges() {
		k := len(bits.PutUvarint(n))
		if k < size {
			t.Fatalf("%d has %d bytes, a lesser number %d", n, k, size)
		}
		size = k
	}
}

// P1.7

func TestZigAndZagTurnEachOther(t *testing.T) {
	for _, u := range edges() {
		for _, x := range []uint64{u, -u, ^u} {
			if bits.Zag(bits.Zig(int64(x))) != int64(x) || bits.Zig(bits.Zag(x)) != x {
				t.Fatal(x)
			}
		}
	}
}

func TestNumbersNear0HaveFewBytes(t *testing.T) {
	for n := int64(-64); n < 64; n++ {
		if len(bits.PutVarint(n)) != 1 {
			t.Fatal(n)
		}
	}
	for size := 1; size < 10; size++ {
		far := int64(1) << (7*size - 1) // the first one that needs a byte more
		for _, c := range []struct {
			n    int64
			size int
		}{{far - 1, size}, {-far, size}, {far, size + 1}, {-far - 1, size + 1}} {
			if k := len(bits.PutVarint(c.n)); k != c.size {
				t.Fatalf("PutVarint(%d) has %d bytes, not %d", c.n, k, c.size)
			}
		}
	}
}
