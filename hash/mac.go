package hash

// These are xored with each byte of a key for the sum within, and for the one around it.
const (
	innerByte = 0x36
	outerByte = 0x5c
)

// Mac is the sum of all parts with the key (HMAC-SHA-256).
func Mac(key []byte, parts ...[]byte) [32]byte {
	full := fullKey(key)
	within := masked(full, innerByte)
	around := masked(full, outerByte)
	h := New()
	h.Write(within[:])
	h.Write(parts...)
	inner := h.Sum()
	return Sum(around[:], inner[:])
}

// fullKey is the key, or the sum of one that is too long, with bytes 0 behind it.
func fullKey(key []byte) [blockBytes]byte {
	var full [blockBytes]byte
	if len(key) > blockBytes {
		sum := Sum(key)
		copy(full[:], sum[:])
		return full
	}
	copy(full[:], key)
	return full
}

// masked is the key with each byte xored with x.
func masked(key [blockBytes]byte, x byte) [blockBytes]byte {
	for i := range key {
		key[i] ^= x
	}
	return key
}

// Equal tells whether both are the same.
func Equal(a, b []byte) bool {
	if len(a) != len(b) {
		return false
	}
	var other byte
	for i := range a { // to the end, so that how long it takes does not tell where they part
		other |= a[i] ^ b[i]
	}
	return other == 0
}
