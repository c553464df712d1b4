package rex_test

import (
	"slices"
	"strings"
	"testing"
	"unicode/utf8"

	"manometer/api"
	"manometer/rex"
	"manometer/sample"
)

const signs = `.*+?()[]{}|^$\`

// P6.4

func TestQuoteOfSome(t *testing.T) {
	for s, want := range map[string]string{
		"": "", "a": "a", "a.b\\": `a\.b\\`, ".": `\.`, `\`: `\\`, `\\`: `\\\\`, `\.`: `\\\.`, signs: `\.\*\+\?\(\)\[\]\{\}\|\^\$\\`, "a|b": `a\|b`, "-/": "-/", "a b\n\t\x00\"'`": "a b\n\t\x00\"'`", "é.é": `é\.é`, "\ufffd": "\ufffd", "\U0010ffff*": "\U0010ffff\\*", `\d\w\s`: `\\d\\w\\s`,
		"\xff": "\ufffd", "a\xc3.": "a\ufffd\\.", "\xe2\x82": "\ufffd\ufffd",
	} {
		if got := rex.Quote(s); got != want {
			t.Errorf("Quote of %q: %q, want %q", s, got, want)
		}
	}
	many := strings.Repeat("a.", 1<<16)
	if rex.Quote(many) != strings.Repeat(`a\.`, 1<<16) {
		t.Error("Quote of many")
	}
}

func TestQuoteOfEachRune(t *testing.T) {
	for c := rune(0); c < 0x3000; c++ {
		s := string(c)
		want := s
		if strings.ContainsRune(signs, c) {
			want = `\` + s
		}
		if got := rex.Quote(s); got != want {
			t.Errorf("Quote of %q: %q", s, got)
		}
	}
}

// P6.5

// mustBeAlone asks whether s, quoted, matches s alone.
func mustBeAlone(t *testing.T, s string, others []string) {
	t.Helper()
	r := must(t, rex.Quote(s))
	same := strings.ToValidUTF8(s, "\ufffd")
	if l, is := r.Values(); !r.Match(s) || r.Size() != utf8.RuneCountInString(s) || utf8.ValidString(s) && (!is || !slices.Equal(l, []string{same})) {
		t.Errorf("%q, quoted: %q, of the size %d", s, l, r.Size())
	}
	for _, other := range others {
		if r.Match(other) != slices.Equal([]rune(other), []rune(s)) { // a byte that belongs to none is the rune fffd there, too
			t.Errorf("%q, quoted, and %q: %v", s, other, r.Match(other))
		}
	}
}

func TestWhatIsQuotedMatchesThatAlone(t *testing.T) {
	all := texts([]string{"a", ".", `\`, "|", "*", "(", ")", "d", "\xff"}, 2)
	for _, s := range all {
		mustBeAlone(t, s, all)
	}
	for i := range 256 {
		s := "a" + string([]byte{byte(i)}) + "b"
		mustBeAlone(t, s, []string{"", "a", "ab", "aab", "abb", "a b", s + s, s[:2], s[1:], "a" + string([]byte{byte(i + 1)}) + "b"})
	}
	for i := range 100 {
		s := string(sample.Bytes(50 + i)[i:])
		mustBeAlone(t, s, []string{"", s[1:], s[:len(s)-1], s + "a", strings.ToValidUTF8(s, "")})
	}
	whole := strings.Repeat("*", api.MaxRex/2)
	mustBeAlone(t, whole, []string{whole + "*", whole[1:], ""})
	if _, n, err := rex.Parse(rex.Quote(whole + "*")); n != 0 || err != api.ErrLong {
		t.Error("quoted too long", n, err)
	}
}
