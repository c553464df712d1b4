package hash_test

import (
	"crypto/sha256"
	"slices"
	"strings"
	"testing"

	"manometer/api"
	"manometer/hash"
	"manometer/sample"
)

// cuts are ways to cut b into parts, some of them empty.
func cuts(b []byte) [][][]byte {
	half := len(b) / 2
	ways := [][][]byte{
		{b},
		{nil, b},
		{b, nil, {}},
		{b[:half], b[half:]},
		{b[:half], nil, b[half:]},
		slices.Collect(slices.Chunk(b, 1)),
	}
	for _, n := range []int{3, 63, 64, 65, 127, 128} {
		ways = append(ways, slices.Collect(slices.Chunk(b, n)))
	}
	return ways
}

// sizes are how many bytes texts have around all that a block's end, and what fills it up, come to.
func sizes() []int {
	var l []int
	for n := range 330 {
		l = append(l, n)
	}
	return append(l, 511, 512, 513, 1000, 4095, 4096, 4097, 100000)
}

func mustWrite(t *testing.T, h *hash.Hash, parts ...[]byte) {
	t.Helper()
	if e := h.Write(parts...); e != api.OK {
		t.Fatalf("Write of %d parts: %d", len(parts), e)
	}
}

// mustBe asks what was written to h.
func mustBe(t *testing.T, h *hash.Hash, text []byte) {
	t.Helper()
	if h.Len() != len(text) {
		t.Fatalf("Len %d, want %d", h.Len(), len(text))
	}
	if h.Sum() != sha256.Sum256(text) {
		t.Fatalf("Sum of %d bytes: %x", len(text), h.Sum())
	}
}

func TestLimitsAndErrors(t *testing.T) {
	got := []api.Errno{api.OK, api.ErrMade, api.ErrForm}
	for i, want := range []int{0, 2, 8} {
		if int(got[i]) != want {
			t.Error(got[i], want)
		}
	}
}

// P3.1

func TestSumIsThatOfTheStandard(t *testing.T) {
	for _, c := range []struct{ text, want string }{
		{"", "e3b0c44298fc1c149afbf4c8996fb92427ae41e4649b934ca495991b7852b855"},
		{"abc", "ba7816bf8f01cfea414140de5dae2223b00361a396177a9cb410ff61f20015ad"},
		{"abcdbcdecdefdefgefghfghighijhijkijkljklmklmnlmnomnopnopq", "248d6a61d20638b8e5c026930c3e6039a33ce45964ff2167f6ecedd419db06c1"},
		{"abcdefghbcdefghicdefghijdefghijkefghijklfghijklmghijklmnhijklmnoijklmnopjklmnopqklmnopqrlmnopqrsmnopqrstnopqrstu", "cf5b16a778af8380036ce59e7b0492370b249b11e8f07a51afac45037afee9d1"},
		{strings.Repeat("a", 1000000), "cdc76e5c9914fb9281a1c7e284d73e67f1809a48a497200e046d39ccc7112cd0"},
	} {
		s := hash.Sum([]byte(c.text))
		if hash.Hex(s[:]) != c.want {
			t.Errorf("Sum of %d bytes: %x, want %s", len(c.text), s, c.want)
		}
	}
}

func TestSumOfEachSize(t *testing.T) {
	for _, n := range sizes() {
		b := sample.Bytes(n)
		if hash.Sum(b) != sha256.Sum256(b) {
			t.Errorf("Sum of %d bytes: %x", n, hash.Sum(b))
		}
		clear(b)
		if hash.Sum(b) != sha256.Sum256(b) {
			t.Errorf("Sum of %d bytes 0: %x", n, hash.Sum(b))
		}
	}
}

func TestSumOfNoParts(t *testing.T) {
	want := sha256.Sum256(nil)
	if hash.Sum() != want || hash.Sum(nil) != want || hash.Sum([]byte{}, nil) != want {
		t.Error(hash.Sum(), hash.Sum(nil))
	}
}

// A text may have more bits than a number of 32 bits tells.
func TestSumOfALongText(t *testing.T) {
	if testing.Short() {
		t.Skip("half a gigabyte")
	}
	part := sample.Bytes(1 << 20)
	h, want := hash.New(), sha256.New()
	for range 513 {
		mustWrite(t, h, part)
		want.Write(part)
	}
	if s := h.Sum(); !slices.Equal(s[:], want.Sum(nil)) || h.Len() != 513<<20 {
		t.Errorf("%x, want %x", s, want.Sum(nil))
	}
}

func TestNewHasNothingWritten(t *testing.T) {
	h := hash.New()
	mustBe(t, h, nil)
	mustWrite(t, h)
	mustWrite(t, h, nil)
	mustWrite(t, h, nil, []byte{}, nil)
	mustBe(t, h, nil)
}

func TestWriteIsBehindWhatWasWritten(t *testing.T) {
	h := hash.New()
	var text []byte
	for n := range 200 {
		b := sample.Bytes(n)
		mustWrite(t, h, b, []byte("x"), nil, b[:n/2])
		text = slices.Concat(text, b, []byte("x"), b[:n/2])
		mustBe(t, h, text)
	}
}

func TestSumLetsTheTextGoOn(t *testing.T) {
	h := hash.New()
	text := sample.Bytes(300)
	for i := range text {
		mustBe(t, h, text[:i])
		mustBe(t, h, text[:i]) // asked twice it is the same
		mustWrite(t, h, text[i:i+1])
	}
	mustBe(t, h, text)
}

func TestTwoTextsAreApart(t *testing.T) {
	x, y := hash.New(), hash.New()
	mustWrite(t, x, []byte("one"))
	mustWrite(t, y, []byte("another"))
	mustBe(t, x, []byte("one"))
	mustBe(t, y, []byte("another"))
	mustBe(t, hash.New(), nil)
}

func TestCloneIsAnotherOne(t *testing.T) {
	for _, n := range []int{0, 1, 55, 56, 63, 64, 65, 128, 200} {
		text := sample.Bytes(n)
		h := hash.New()
		mustWrite(t, h, text)
		twin := h.Clone()
		if twin == h {
			t.Fatal("the clone is the text itself")
		}
		mustBe(t, twin, text)

		mustWrite(t, h, []byte("left"))
		mustBe(t, twin, text)
		mustWrite(t, twin, []byte("right, and longer"))
		mustBe(t, h, slices.Concat(text, []byte("left")))
		mustBe(t, twin, slices.Concat(text, []byte("right, and longer")))
		mustBe(t, twin.Clone().Clone(), slices.Concat(text, []byte("right, and longer")))
	}
}

func TestHashThatNoCallMade(t *testing.T) {
	for _, h := range []*hash.Hash{nil, {}} {
		for _, parts := range [][][]byte{nil, {nil}, {[]byte("abc")}} {
			if e := h.Write(parts...); e != api.ErrMade {
				t.Error("Write", e)
			}
		}
		if h.Sum() != [32]byte{} {
			t.Error("Sum", h.Sum())
		}
		if h.Len() != 0 {
			t.Error("Len", h.Len())
		}
		if h.Clone() != nil {
			t.Error("Clone", h.Clone())
		}
	}
}

// R4

func TestSumsKeepAndChangeNothing(t *testing.T) {
	for _, n := range []int{1, 63, 64, 65, 200} {
		b, was := sample.Bytes(n), sample.Bytes(n)
		parts := [][]byte{b, nil, b[:1]}
		text := slices.Concat(parts...)

		hash.Sum(parts...)
		h := hash.New()
		mustWrite(t, h, parts...)
		if !slices.Equal(b, was) || len(parts) != 3 || parts[1] != nil || &parts[0][0] != &b[0] {
			t.Fatal("what was handed in has changed")
		}

		clear(b)
		clear(parts)
		mustBe(t, h, text)
		s := h.Sum()
		clear(s[:])
		mustBe(t, h, text)
	}
}

// P3.5

func TestSumOfATextCutAnyhow(t *testing.T) {
	for _, n := range []int{0, 1, 2, 55, 56, 57, 63, 64, 65, 127, 128, 129, 191, 192, 500} {
		b := sample.Bytes(n)
		for i, parts := range cuts(b) {
			if hash.Sum(parts...) != sha256.Sum256(b) {
				t.Errorf("%d bytes, cut in way %d", n, i)
			}
			once, each := hash.New(), hash.New()
			mustWrite(t, once, parts...)
			mustBe(t, once, b)
			for _, part := range parts {
				mustWrite(t, each, part)
			}
			mustBe(t, each, b)
		}
	}
}

func TestSumOfATextCutInThree(t *testing.T) {
	b := sample.Bytes(150)
	want := sha256.Sum256(b)
	for i := range len(b) + 1 {
		for j := i; j <= len(b); j++ {
			if hash.Sum(b[:i], b[i:j], b[j:]) != want {
				t.Fatal("cut at", i, j)
			}
		}
	}
}
