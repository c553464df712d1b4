package hash

import "math/bits"

// These are the primes of xxHash64.
const (
	prime1 uint64 = 11400714785074694791
	prime2 uint64 = 14029467366897019727
	prime3 uint64 = 1609587929392839161
	prime4 uint64 = 9650029242287828579
	prime5 uint64 = 2870177450012600261
)

const (
	wordBytes   = 8
	halfBytes   = 4
	stripeBytes = 32 // four words
)

// XX is the sum xxHash64 of b, with the seed 0.
func XX(b []byte) uint64 {
	h, rest := prime5, b
	if len(b) >= stripeBytes {
		h, rest = stripes(b)
	}
	return settled(ended(h+uint64(len(b)), rest))
}

// stripes is what all whole stripes of b come to, and what is left of b behind them.
func stripes(b []byte) (uint64, []byte) {
	var lanes [4]uint64
	lanes[0] = prime1
	lanes[0] += prime2 // by itself, for as constants these would be too great together
	lanes[1] = prime2
	lanes[3] -= prime1
	for len(b) >= stripeBytes {
		for i := range lanes {
			lanes[i] = round(lanes[i], number(b[wordBytes*i:], wordBytes))
		}
		b = b[stripeBytes:]
	}
	h := bits.RotateLeft64(lanes[0], 1) + bits.RotateLeft64(lanes[1], 7) +
		bits.RotateLeft64(lanes[2], 12) + bits.RotateLeft64(lanes[3], 18)
	for _, lane := range lanes {
		h = merge(h, lane)
	}
	return h, b
}

// ended is what h comes to by what is left behind the stripes.
func ended(h uint64, rest []byte) uint64 {
	for len(rest) >= wordBytes {
		h ^= round(0, number(rest, wordBytes))
		h = bits.RotateLeft64(h, 27)*prime1 + prime4
		rest = rest[wordBytes:]
	}
	if len(rest) >= halfBytes {
		h ^= number(rest, halfBytes) * prime1
		h = bits.RotateLeft64(h, 23)*prime2 + prime3
		rest = rest[halfBytes:]
	}
	for _, x := range rest {
		h ^= uint64(x) * prime5
		h = bits.RotateLeft64(h, 11) * prime1
	}
	return h
}

// settled is h with each of its bits spread over all of them.
func settled(h uint64) uint64 {
	h = (h ^ h>>33) * prime2
	h = (h ^ h>>29) * prime3
	return h ^ h>>32
}

// round is what a lane comes to by the word x.
func round(lane, x uint64) uint64 { return bits.RotateLeft64(lane+x*prime2, 31) * prime1 }

// merge is h with a lane in it.
func merge(h, lane uint64) uint64 { return (h^round(0, lane))*prime1 + prime4 }

// number is the first n bytes of b as a number, the lowest first.
func number(b []byte, n int) uint64 {
	var x uint64
	for i, part := range b[:n] {
		x |= uint64(part) << (8 * i)
	}
	return x
}
