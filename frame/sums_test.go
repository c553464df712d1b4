package frame_test

import (
	"bytes"
	"math"
	"testing"

	"manometer/api"
	"manometer/frame"
	"manometer/sample"
)

// plainOn is what a sum that is not yet ended comes to by b, a bit at a time, as P2.1 says it.
func plainOn(state uint32, b []byte) uint32 {
	for _, x := range b {
		state ^= uint32(x)
		for range 8 {
			out := state & 1
			state >>= 1
			if out == 1 {
				state ^= 0x82f63b78
			}
		}
	}
	return state
}

func plainSum(b []byte) uint32 { return plainOn(0xffffffff, b) ^ 0xffffffff }

// anyNumbers are numbers of 32 bits: the edges, those around each power of 2, and some that look like any.
func anyNumbers() []uint32 {
	l := []uint32{0, math.MaxUint32, 0xa282ead8, 0xa282ead7, 0x5d7d1528}
	for i := range 32 {
		l = append(l, 1<<i-1, 1<<i, 1<<i+1, ^uint32(1<<i))
	}
	b := sample.Bytes(4000)
	for i := 0; i < len(b); i += 4 {
		l = append(l, uint32(b[i])<<24|uint32(b[i+1])<<16|uint32(b[i+2])<<8|uint32(b[i+3]))
	}
	return l
}

func TestLimitsAndErrors(t *testing.T) {
	if api.MaxFrame != 1048576 {
		t.Error("MaxFrame", api.MaxFrame)
	}
	got := []api.Errno{api.OK, api.ErrLong, api.ErrShort, api.ErrForm, api.ErrOver, api.ErrSum}
	for i, want := range []int{0, 3, 6, 8, 9, 20} {
		if int(got[i]) != want {
			t.Error(got[i], want)
		}
	}
}

// P2.1

func TestSumKnown(t *testing.T) {
	rising, falling := make([]byte, 32), make([]byte, 32)
	for i := range 32 {
		rising[i], falling[31-i] = byte(i), byte(i)
	}
	for _, c := range []struct {
		b    []byte
		want uint32
	}{
		{nil, 0},
		{[]byte{}, 0},
		{[]byte{0}, 0x527d5351},
		{[]byte("a"), 0xc1d04330},
		{[]byte("123456789"), 0xe3069283},
		{make([]byte, 32), 0x8a9136aa},
		{bytes.Repeat([]byte{0xff}, 32), 0x62a8ab43},
		{rising, 0x46dd794e},
		{falling, 0x113fdb5c},
	} {
		if n := frame.Sum(c.b); n != c.want {
			t.Errorf("Sum(%x): %08x, want %08x", c.b, n, c.want)
		}
	}
}

func TestSumOfNoParts(t *testing.T) {
	if frame.Sum() != 0 || frame.Sum(nil, nil) != 0 || frame.Sum([]byte{}, nil, []byte{}) != 0 {
		t.Error(frame.Sum(), frame.Sum(nil, nil))
	}
}

func TestSumOfEachByte(t *testing.T) {
	for x := range 256 {
		for y := range 256 {
			b := []byte{byte(x), byte(y)}
			if n := frame.Sum(b); n != plainSum(b) {
				t.Fatalf("Sum(%x): %08x, want %08x", b, n, plainSum(b))
			}
		}
		if n := frame.Sum([]byte{byte(x)}); n != plainSum([]byte{byte(x)}) {
			t.Fatalf("Sum(%02x): %08x", x, n)
		}
	}
}

func TestSumOfAnyLength(t *testing.T) {
	for _, n := range []int{3, 4, 7, 8, 9, 15, 16, 17, 63, 64, 65, 255, 256, 257, 1000, 4096, 100003} {
		b := sample.Bytes(n)
		if got := frame.Sum(b); got != plainSum(b) {
			t.Fatalf("Sum of %d bytes: %08x, want %08x", n, got, plainSum(b))
		}
	}
}

func TestSumOfParts(t *testing.T) {
	b := sample.Bytes(40)
	want := plainSum(b)
	for i := range len(b) + 1 {
		for j := i; j <= len(b); j++ {
			if n := frame.Sum(b[:i], b[i:j], nil, b[j:]); n != want {
				t.Fatalf("cut at %d and %d: %08x, want %08x", i, j, n, want)
			}
		}
	}
	var single [][]byte
	for i := range b {
		single = append(single, b[i:i+1])
	}
	if n := frame.Sum(single...); n != want {
		t.Fatalf("byte by byte: %08x, want %08x", n, want)
	}
	single[0], single[1] = single[1], single[0]
	if frame.Sum(single...) == want {
		t.Fatal("the parts' order does not count")
	}
}

// P2.4 has More, too.

func TestMoreGoesOn(t *testing.T) {
	for _, n := range []int{0, 1, 2, 9, 64, 301} {
		b := sample.Bytes(n)
		var sum uint32
		for i, x := range b {
			sum = frame.More(sum, []byte{x})
			if sum != plainSum(b[:i+1]) {
				t.Fatalf("byte %d: %08x", i, sum)
			}
		}
		for i := range n + 1 {
			if got := frame.More(frame.Sum(b[:i]), b[i:]); got != plainSum(b) {
				t.Fatalf("More at %d of %d: %08x", i, n, got)
			}
		}
	}
}

func TestMoreOfAnySum(t *testing.T) {
	b := sample.Bytes(13)
	for _, sum := range anyNumbers() {
		if n := frame.More(sum, b); n != ^plainOn(^sum, b) {
			t.Fatalf("More(%08x): %08x, want %08x", sum, n, ^plainOn(^sum, b))
		}
		if frame.More(sum, nil) != sum || frame.More(sum, []byte{}) != sum {
			t.Fatalf("More(%08x) of nothing", sum)
		}
	}
}

func TestSumsLeaveTheirBytes(t *testing.T) {
	b := sample.Bytes(50)
	frame.Sum(b[:20], b[20:])
	frame.More(7, b)
	if !bytes.Equal(b, sample.Bytes(50)) {
		t.Fatal("changed")
	}
}

// P2.2

func TestMaskKnown(t *testing.T) {
	for sum, want := range map[uint32]uint32{
		0:              0xa282ead8,
		1:              0xa284ead8,
		0x7fff:         0xa280ead8,
		0x8000:         0xa282ead9,
		0x12345678:     0x4f730f40,
		0x80000000:     0xa283ead8,
		0xe3069283:     0xc78ab0e5,
		math.MaxUint32: 0xa282ead7,
	} {
		if n := frame.Mask(sum); n != want {
			t.Errorf("Mask(%08x): %08x, want %08x", sum, n, want)
		}
		if n := frame.Unmask(want); n != sum {
			t.Errorf("Unmask(%08x): %08x, want %08x", want, n, sum)
		}
	}
}

func TestMaskAsItIsTold(t *testing.T) {
	for _, sum := range anyNumbers() {
		// Reckoned in 64 bits, where nothing falls out.
		turned := uint64(sum)>>15 | uint64(sum)<<17&math.MaxUint32
		if want := uint32((turned + 0xa282ead8) % (1 << 32)); frame.Mask(sum) != want {
			t.Fatalf("Mask(%08x): %08x, want %08x", sum, frame.Mask(sum), want)
		}
	}
}

// P2.4

func TestMaskAndUnmaskAreEachOthersTurning(t *testing.T) {
	for _, n := range anyNumbers() {
		if frame.Unmask(frame.Mask(n)) != n || frame.Mask(frame.Unmask(n)) != n {
			t.Fatalf("%08x", n)
		}
	}
}
