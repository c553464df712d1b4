package hash_test

import (
	"bytes"
	"crypto/hmac"
	"crypto/sha256"
	"slices"
	"testing"

	"manometer/hash"
	"manometer/sample"
)

// plainMac is the sum with the key by Go's own library.
func plainMac(key, text []byte) [32]byte {
	m := hmac.New(sha256.New, key)
	m.Write(text)
	return [32]byte(m.Sum(nil))
}

// P3.2

// The cases are those of RFC 4231.
func TestMacIsThatOfTheStandard(t *testing.T) {
	var rising []byte
	for i := range 25 {
		rising = append(rising, byte(i+1))
	}
	long := bytes.Repeat([]byte{0xaa}, 131)
	for _, c := range []struct {
		key  []byte
		text string
		want string
	}{
		{bytes.Repeat([]byte{0x0b}, 20), "Hi There", "b0344c61d8db38535ca8afceaf0bf12b881dc200c9833da726e9376c2e32cff7"},
		{[]byte("Jefe"), "what do ya want for nothing?", "5bdcc146bf60754e6a042426089575c75a003f089d2739839dec58b964ec3843"},
		{bytes.Repeat([]byte{0xaa}, 20), string(bytes.Repeat([]byte{0xdd}, 50)), "773ea91e36800e46854db8ebd09181a72959098b3ef8c122d9635514ced565fe"},
		{rising, string(bytes.Repeat([]byte{0xcd}, 50)), "82558a389a443c0ea4cc819899f2083a85f0faa3e578f8077a2e3ff46729665b"},
		{long, "Test Using Larger Than Block-Size Key - Hash Key First", "60e431591ee0b67f0d8a26aacbf5b77f8e0bc6213728c5140546040f0ee37f54"},
		{long, "This is a test using a larger than block-size key and a larger than block-size data. The key needs to be hashed before being used by the HMAC algorithm.", "9b09ffa71b942fcb27635fbcd5b0e944bfdc63644f0713938a7f51535c3a35e2"},
		{nil, "", "b613679a0814d9ec772f95d778c35fc5ff1697c493715653c6c712144292c5ad"},
	} {
		m := hash.Mac(c.key, []byte(c.text))
		if hash.Hex(m[:]) != c.want {
			t.Errorf("Mac of %q: %x, want %s", c.text, m, c.want)
		}
	}
}

func TestMacOfEachSize(t *testing.T) {
	for _, k := range []int{0, 1, 16, 31, 32, 33, 55, 56, 63, 64, 65, 66, 127, 128, 129, 1000} {
		key := sample.Bytes(k)
		for n := range 140 {
			text := sample.Bytes(n)
			if hash.Mac(key, text) != plainMac(key, text) {
				t.Errorf("a key of %d bytes, %d bytes: %x", k, n, hash.Mac(key, text))
			}
		}
	}
}

func TestMacOfNothing(t *testing.T) {
	want := plainMac(nil, nil)
	if hash.Mac(nil) != want || hash.Mac([]byte{}, nil, []byte{}) != want {
		t.Errorf("%x", hash.Mac(nil))
	}
	key := []byte("a key")
	if hash.Mac(key) != plainMac(key, nil) {
		t.Errorf("%x", hash.Mac(key))
	}
}

func TestMacKeepsAndChangesNothing(t *testing.T) {
	for _, n := range []int{1, 20, 64, 65, 130} {
		key, b := append(make([]byte, 0, 200), sample.Bytes(n)...), sample.Bytes(90)
		hash.Mac(key, b, key)
		if !slices.Equal(key, sample.Bytes(n)) || !slices.Equal(b, sample.Bytes(90)) {
			t.Error("what was handed in has changed", n)
		}
		if more := key[n : n+1]; more[0] != 0 {
			t.Error("something was written behind the key", n)
		}
	}
}

func TestEqual(t *testing.T) {
	for _, n := range []int{1, 2, 7, 8, 9, 31, 32, 33, 64, 100} {
		b, same := sample.Bytes(n), sample.Bytes(n)
		if !hash.Equal(b, same) || !hash.Equal(b, b) {
			t.Error("of the same", n)
		}
		if hash.Equal(b, b[:n-1]) || hash.Equal(b[:n-1], b) || hash.Equal(b, append(same, 0)) || hash.Equal(nil, b) || hash.Equal(b, nil) {
			t.Error("of another length", n)
		}
		for i := range n * 8 {
			same[i/8] ^= 1 << (i % 8)
			if hash.Equal(b, same) || hash.Equal(same, b) {
				t.Errorf("%d bytes, of which bit %d is another one", n, i)
			}
			same[i/8] ^= 1 << (i % 8)
		}
		if !slices.Equal(b, same) || !slices.Equal(b, sample.Bytes(n)) {
			t.Error("what was handed in has changed", n)
		}
	}
}

func TestEqualWhereDifferencesMightFallOut(t *testing.T) {
	for _, c := range [][2]string{{"ab", "ba"}, {"\x01\x01", "\x00\x00"}, {"\x80\x80", "\x00\x00"}, {"\x01\xff", "\x00\x00"}, {"\x00", ""}, {"a\x00", "a"}} {
		if hash.Equal([]byte(c[0]), []byte(c[1])) || hash.Equal([]byte(c[1]), []byte(c[0])) {
			t.Errorf("%q %q", c[0], c[1])
		}
	}
}

func TestEqualOfNothing(t *testing.T) {
	if !hash.Equal(nil, nil) || !hash.Equal(nil, []byte{}) || !hash.Equal([]byte{}, nil) || !hash.Equal([]byte{}, []byte{}) {
		t.Error("nil and empty are the same")
	}
}

// P3.5

func TestMacOfATextCutAnyhow(t *testing.T) {
	key := sample.Bytes(40)
	for _, n := range []int{0, 1, 2, 55, 56, 63, 64, 65, 127, 128, 129, 500} {
		b := sample.Bytes(n)
		for i, parts := range cuts(b) {
			if hash.Mac(key, parts...) != plainMac(key, b) {
				t.Errorf("%d bytes, cut in way %d", n, i)
			}
		}
	}
}

// What stands in the key is not in the text, however both are cut.
func TestMacKeyIsNoPart(t *testing.T) {
	if hash.Mac([]byte("ab"), []byte("c")) == hash.Mac([]byte("a"), []byte("bc")) {
		t.Error("the key's last byte counts as the text's first one")
	}
}

// P3.6

func TestMacOfAShortKeyWithBytesBehindIt(t *testing.T) {
	text := sample.Bytes(70)
	for n := range 65 {
		key := sample.Bytes(n)
		want := hash.Mac(key, text)
		for full := n; full <= 64; full++ {
			filled := make([]byte, full)
			copy(filled, key)
			if hash.Mac(filled, text) != want {
				t.Errorf("a key of %d bytes, with bytes 0 up to %d", n, full)
			}
		}
		if n < 64 {
			other := make([]byte, n+1)
			copy(other, key)
			other[n] = 1
			if hash.Mac(other, text) == want {
				t.Errorf("a key of %d bytes, with a byte 1", n)
			}
		}
	}
}

func TestMacOfALongKey(t *testing.T) {
	text := sample.Bytes(70)
	for _, n := range []int{65, 66, 100, 128, 1000} {
		key := sample.Bytes(n)
		sum := hash.Sum(key)
		if hash.Mac(key, text) != hash.Mac(sum[:], text) {
			t.Errorf("a key of %d bytes is its sum", n)
		}
		if hash.Mac(key, text) == hash.Mac(key[:64], text) {
			t.Errorf("a key of %d bytes is not its first 64", n)
		}
	}
	key := sample.Bytes(64)
	sum := hash.Sum(key)
	if hash.Mac(key, text) == hash.Mac(sum[:], text) {
		t.Error("a key of 64 bytes is itself")
	}
	filled := append(sample.Bytes(64), 0) // one byte 0 more than there is room for
	if hash.Mac(key, text) == hash.Mac(filled, text) {
		t.Error("a key of 65 bytes is its sum, whatever its last byte")
	}
}
