package hash_test

import (
	"encoding/base64"
	"encoding/hex"
	"slices"
	"strings"
	"testing"

	"manometer/api"
	"manometer/hash"
	"manometer/sample"
)

const alphabet = "ABCDEFGHIJKLMNOPQRSTUVWXYZabcdefghijklmnopqrstuvwxyz0123456789-_"

// kind is one of the two ways to write bytes as letters.
type kind struct {
	name  string
	write func([]byte) string
	read  func(string) ([]byte, api.Errno)
}

var (
	armor  = kind{"Armor", hash.Armor, hash.Unarmor}
	digits = kind{"Hex", hash.Hex, hash.Unhex}
)

// same asks that b is written as s, and s read as b.
func (k kind) same(t *testing.T, b []byte, s string) {
	t.Helper()
	if got := k.write(b); got != s {
		t.Fatalf("%s of %x: %q, want %q", k.name, b, got, s)
	}
	k.reads(t, s, b)
}

func (k kind) reads(t *testing.T, s string, want []byte) {
	t.Helper()
	if b, e := k.read(s); e != api.OK || !slices.Equal(b, want) {
		t.Fatalf("%q read as of %s: %x %d, want %x", s, k.name, b, e, want)
	}
}

func (k kind) refuses(t *testing.T, s string) {
	t.Helper()
	if b, e := k.read(s); e != api.ErrForm || len(b) != 0 {
		t.Errorf("%q read as of %s: %x %d", s, k.name, b, e)
	}
}

// strangers are texts that are no letter of either kind, or one that looks like it.
func strangers() []string {
	l := []string{"\u00e9", "\uff41", "\uff10", "\uff21", "\u2212", "\uff3f", "\u0660", "\u212a", "\u017f", "\U0001d7ce", "\uFFFD",
		"\xc3", "\xc3\x28", "\xc1\x81", "\xe0\x81\x81", "\xed\xa0\x80", "\xf4\x90\x80\x80"}
	for x := range 256 {
		if !strings.Contains(alphabet, string([]byte{byte(x)})) {
			l = append(l, string([]byte{byte(x)}))
		}
	}
	return l
}

// P3.3

func TestArmorOfSome(t *testing.T) {
	for _, c := range []struct{ b, want string }{
		{"", ""},
		{"\xfb\xff", "-_8"},
		{"\x00", "AA"},
		{"\x00\x00", "AAA"},
		{"\x00\x00\x00", "AAAA"},
		{"\xff", "_w"},
		{"\xff\xff", "__8"},
		{"\xff\xff\xff", "____"},
		{"\xfb\xef\xbe", "----"},
		{"f", "Zg"},
		{"fo", "Zm8"},
		{"foo", "Zm9v"},
		{"foob", "Zm9vYg"},
		{"fooba", "Zm9vYmE"},
		{"foobar", "Zm9vYmFy"},
	} {
		armor.same(t, []byte(c.b), c.want)
	}
}

func TestArmorOfEachSize(t *testing.T) {
	for n := range 200 {
		b := sample.Bytes(n)
		armor.same(t, b, base64.RawURLEncoding.EncodeToString(b))
	}
}

func TestArmorHasEachLetter(t *testing.T) {
	var b []byte // six bits after six bits, each number once
	for n := 0; n < 64; n += 4 {
		x := n<<18 | (n+1)<<12 | (n+2)<<6 | (n + 3)
		b = append(b, byte(x>>16), byte(x>>8), byte(x))
	}
	armor.same(t, b, alphabet)
}

// Each text of up to three letters is taken just if base64 takes it whose last letter must be filled with bits 0.
func TestUnarmorOfEachShortText(t *testing.T) {
	strict := base64.RawURLEncoding.Strict()
	ask := func(s string) {
		want, err := strict.DecodeString(s)
		if err != nil {
			armor.refuses(t, s)
			return
		}
		armor.reads(t, s, want)
	}
	for i := range alphabet {
		ask(alphabet[i : i+1])
		for j := range alphabet {
			ask(alphabet[i:i+1] + alphabet[j:j+1])
			ask("A" + alphabet[i:i+1] + alphabet[j:j+1])
			ask(alphabet[i:i+1] + "A" + alphabet[j:j+1])
			ask("abcd" + alphabet[i:i+1] + alphabet[j:j+1])
		}
	}
}

func TestUnarmorRefuses(t *testing.T) {
	for _, s := range []string{"A", "AAAAA", "Zm9vY", "AAAAAAAAA", "-_9", "-_-", "__9", "AB", "AP", "AQ==", "-_8=", "Zm9v=", "Zm9v====", "=", "+/8", "Zm 9v", "Zm9v\n", "\nZm9v", "Zm\r\n9v", "Zm9v ", " Zm9v"} {
		armor.refuses(t, s)
	}
	for _, x := range strangers() {
		for _, s := range []string{x, "A" + x, x + "A", "AA" + x, "AAA" + x, "AAAA" + x, x + "AAA", x + "AAAA", "A" + x + "AA", "AAAA" + x + "AAA"} {
			armor.refuses(t, s)
		}
	}
}

func TestHexOfSome(t *testing.T) {
	for _, c := range []struct{ b, want string }{
		{"", ""},
		{"\x00", "00"},
		{"\x01\x23\x45\x67\x89\xab\xcd\xef", "0123456789abcdef"},
		{"\xfe\xdc\xba\x98\x76\x54\x32\x10", "fedcba9876543210"},
		{"\x0a", "0a"},
		{"\xa0", "a0"},
		{"\xff\x00", "ff00"},
	} {
		digits.same(t, []byte(c.b), c.want)
	}
}

func TestHexOfEachSizeAndByte(t *testing.T) {
	for n := range 200 {
		b := sample.Bytes(n)
		digits.same(t, b, hex.EncodeToString(b))
	}
	for x := range 256 {
		b := []byte{byte(x)}
		digits.same(t, b, hex.EncodeToString(b))
	}
}

func TestUnhexOfEachShortText(t *testing.T) {
	const hexes = "0123456789abcdef"
	for x := range 256 {
		one := string([]byte{byte(x)})
		digits.refuses(t, one)
		for y := range 256 {
			s := one + string([]byte{byte(y)})
			high, low := strings.Index(hexes, s[:1]), strings.Index(hexes, s[1:])
			if high < 0 || low < 0 {
				digits.refuses(t, s)
				continue
			}
			digits.reads(t, s, []byte{byte(high<<4 | low)})
		}
	}
}

func TestUnhexRefuses(t *testing.T) {
	for _, s := range []string{"0", "a", "000", "abc", "00000", "0A", "A0", "FF", "aF", "0g", "g0", "0x00", "00 ", " 00", "00\n", "0 0", "-1", "+1", "00=", "__"} {
		digits.refuses(t, s)
	}
	for _, x := range append(strangers(), "g", "G", "A", "F", "z", "Z", "-", "_") {
		for _, s := range []string{x, "0" + x, x + "0", "00" + x, "00" + x + "0", "00" + x + "00", x + "00", x + x} {
			digits.refuses(t, s)
		}
	}
}

// R4

func TestLettersKeepAndChangeNothing(t *testing.T) {
	for _, k := range []kind{armor, digits} {
		b := append(make([]byte, 0, 100), sample.Bytes(40)...)
		s := k.write(b)
		if !slices.Equal(b, sample.Bytes(40)) {
			t.Error("what was handed in has changed")
		}
		clear(b)
		k.reads(t, s, sample.Bytes(40))

		x, _ := k.read(s)
		clear(x)
		k.reads(t, s, sample.Bytes(40))
	}
}

// P3.7

// Letters that are taken are those of the bytes: a letter is put in, left out, or changed for another one.
func TestOneForm(t *testing.T) {
	for n := range 12 {
		oneForm(t, armor, sample.Bytes(n), alphabet+"+/= \n")
		oneForm(t, digits, sample.Bytes(n), "0123456789abcdefABCDEFgxX \n")
	}
}

func oneForm(t *testing.T, k kind, b []byte, letters string) {
	t.Helper()
	s := k.write(b)
	for i := range len(s) + 1 {
		for _, x := range letters {
			tries := []string{s[:i] + string(x) + s[i:], s[:i] + string(x)}
			if i < len(s) {
				tries = append(tries, s[:i]+string(x)+s[i+1:], s[:i]+s[i+1:])
			}
			for _, text := range tries {
				if b, e := k.read(text); e == api.OK && k.write(b) != text {
					t.Fatalf("%q is taken for %x, which is %q", text, b, k.write(b))
				}
			}
		}
	}
}

func TestLongerBytesHaveNoFewerLetters(t *testing.T) {
	lastArmor, lastHex := 0, 0
	for n := range 300 {
		a, h := len(hash.Armor(sample.Bytes(n))), len(hash.Hex(make([]byte, n)))
		if a < lastArmor || h < lastHex {
			t.Fatal(n, a, h)
		}
		if a != (8*n+5)/6 || h != 2*n {
			t.Fatal(n, a, h)
		}
		lastArmor, lastHex = a, h
	}
}
