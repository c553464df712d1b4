package hash_test

import (
	"encoding/binary"
	"math/bits"
	"slices"
	"testing"

	"manometer/hash"
	"manometer/sample"
)

// These are the primes by their letters, as xxHash64 tells them.
var (
	p1 = uint64(0x9E3779B185EBCA87)
	p2 = uint64(0xC2B2AE3D27D4EB4F)
	p3 = uint64(0x165667B19E3779F9)
	p4 = uint64(0x85EBCA77C2B2AE63)
	p5 = uint64(0x27D4EB2F165667C5)
)

func plainRound(a, x uint64) uint64 { return bits.RotateLeft64(a+x*p2, 31) * p1 }
func plainMerge(h, a uint64) uint64 { return (h^plainRound(0, a))*p1 + p4 }

// plainXX is the sum as P3.4 says it, word for word.
func plainXX(b []byte) uint64 {
	n, h := uint64(len(b)), p5
	if n >= 32 {
		a1, a2, a3, a4 := p1+p2, p2, uint64(0), 0-p1
		for ; len(b) >= 32; b = b[32:] {
			a1 = plainRound(a1, binary.LittleEndian.Uint64(b))
			a2 = plainRound(a2, binary.LittleEndian.Uint64(b[8:]))
			a3 = plainRound(a3, binary.LittleEndian.Uint64(b[16:]))
			a4 = plainRound(a4, binary.LittleEndian.Uint64(b[24:]))
		}
		h = bits.RotateLeft64(a1, 1) + bits.RotateLeft64(a2, 7) + bits.RotateLeft64(a3, 12) + bits.RotateLeft64(a4, 18)
		h = plainMerge(plainMerge(plainMerge(plainMerge(h, a1), a2), a3), a4)
	}
	h += n
	for ; len(b) >= 8; b = b[8:] {
		h = bits.RotateLeft64(h^plainRound(0, binary.LittleEndian.Uint64(b)), 27)*p1 + p4
	}
	if len(b) >= 4 {
		h = bits.RotateLeft64(h^uint64(binary.LittleEndian.Uint32(b))*p1, 23)*p2 + p3
		b = b[4:]
	}
	for _, x := range b {
		h = bits.RotateLeft64(h^uint64(x)*p5, 11) * p1
	}
	h ^= h >> 33
	h *= p2
	h ^= h >> 29
	h *= p3
	return h ^ h>>32
}

// P3.4

// The sums were reckoned by another program.
func TestXXOfSome(t *testing.T) {
	for _, c := range []struct {
		text string
		want uint64
	}{
		{"", 0xef46db3751d8e999},
		{"a", 0xd24ec4f1a98c6e5b},
		{"abc", 0x44bc2cf5ad770999},
		{"abcd", 0xde0327b0d25d92cc},
		{"abcdefg", 0x1860940e2902822d},
		{"abcdefgh", 0x3ad351775b4634b7},
		{"abcdefghijkl", 0x4b09b7d3a233d4b3},
		{"0123456789abcdef0123456789abcde", 0x1fdfc63febacfde7},
		{"0123456789abcdef0123456789abcdef", 0x642a94958e71e6c5},
		{"0123456789abcdef0123456789abcdef0", 0xe87684f08d6d0816},
		{"The quick brown fox jumps over the lazy dog", 0x0b242d361fda71bc},
		{"Nobody inspects the spammish repetition", 0xfbcea83c8a378bf1},
	} {
		if x := hash.XX([]byte(c.text)); x != c.want {
			t.Errorf("XX of %q: %016x, want %016x", c.text, x, c.want)
		}
	}
}

func TestXXOfEachSize(t *testing.T) {
	var all uint64
	for n := range 300 {
		b := sample.Bytes(n)
		x := hash.XX(b)
		if x != plainXX(b) {
			t.Errorf("XX of %d bytes: %016x, want %016x", n, x, plainXX(b))
		}
		all = all*31 + x
	}
	if all != 0xa14843c331c36a1a {
		t.Errorf("all together: %016x", all)
	}
	if x := hash.XX(sample.Bytes(100000)); x != 0xb1a474c31fa4c475 {
		t.Errorf("of 100000 bytes: %016x", x)
	}
}

func TestXXOfEdges(t *testing.T) {
	if hash.XX(nil) != hash.XX([]byte{}) {
		t.Error("nil and empty are the same")
	}
	seen := map[uint64]int{}
	for n := range 100 {
		for _, fill := range []byte{0, 1, 0x7f, 0x80, 0xff} {
			b := slices.Repeat([]byte{fill}, n)
			x := hash.XX(b)
			if x != plainXX(b) {
				t.Errorf("XX of %d bytes %x: %016x", n, fill, x)
			}
			seen[x]++
		}
	}
	if len(seen) != 99*5+1 {
		t.Error("texts with the same sum", len(seen))
	}
}

func TestXXOfEachBit(t *testing.T) {
	for _, n := range []int{1, 3, 4, 7, 8, 31, 32, 33, 47, 64, 79} {
		b := sample.Bytes(n)
		for i := range 8 * n {
			b[i/8] ^= 1 << (i % 8)
			if hash.XX(b) != plainXX(b) || hash.XX(b) == hash.XX(sample.Bytes(n)) {
				t.Errorf("%d bytes, of which bit %d is another one", n, i)
			}
			b[i/8] ^= 1 << (i % 8)
		}
	}
}

func TestXXChangesNothing(t *testing.T) {
	b := append(make([]byte, 0, 100), sample.Bytes(70)...)
	hash.XX(b)
	if !slices.Equal(b, sample.Bytes(70)) {
		t.Error("what was handed in has changed")
	}
	copy(b[70:100], sample.Bytes(30)) // what lies behind the bytes is not theirs
	if hash.XX(b) != hash.XX(sample.Bytes(70)) {
		t.Error("the sum hangs on a capacity")
	}
}
