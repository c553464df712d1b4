package rex_test

import (
	"regexp"
	"slices"
	"strings"
	"testing"
	"unicode/utf8"

	"manometer/api"
	"manometer/sample"
)

// P6.2

func TestMatchOfSome(t *testing.T) {
	for _, c := range []struct {
		s       string
		yes, no []string
	}{
		{"", []string{""}, []string{"a", " ", "\x00", "\xff"}},
		{"|", []string{""}, []string{"|", "a"}},
		{"()", []string{""}, []string{"()", "a"}},
		{"()*", []string{""}, []string{"a"}},
		{"(|)+", []string{""}, []string{"a"}},
		{"a", []string{"a"}, []string{"", "b", "A", "aa", "ab", "ba", "a ", " a", "a\n", "\na", "a\x00"}},
		{"ab", []string{"ab"}, []string{"", "a", "b", "ba", "abb", "aab", "abab"}},
		{"a|b", []string{"a", "b"}, []string{"", "ab", "a|b", "|", "c"}},
		{"a|bc|", []string{"a", "bc", ""}, []string{"b", "c", "abc", "ac"}},
		{"ab|cd", []string{"ab", "cd"}, []string{"acd", "abd", "abcd", "ad"}},
		{"a(b|c)d", []string{"abd", "acd"}, []string{"ab", "cd", "ad", "abcd", "abc"}},
		{"a(b|c)+", []string{"ab", "ac", "abcb"}, []string{"a", "", "abd", "b", "abca"}},
		{"a*", []string{"", "a", "aa", "aaaaaaaa"}, []string{"b", "aab", "baa", "a*"}},
		{"a+", []string{"a", "aa", "aaaaaaaa"}, []string{"", "b", "aab", "a+"}},
		{"a?", []string{"", "a"}, []string{"aa", "b", "a?"}},
		{"ab*", []string{"a", "ab", "abbb"}, []string{"", "b", "abab", "aab"}},
		{"ab+", []string{"ab", "abbb"}, []string{"", "a", "abab"}},
		{"ab?", []string{"a", "ab"}, []string{"", "b", "abb"}},
		{"a*b*", []string{"", "a", "b", "aab", "abb"}, []string{"ba", "aba"}},
		{"a+b?c*", []string{"a", "ab", "ac", "aabcc"}, []string{"", "b", "bc", "abbc", "acb"}},
		{"(ab)*", []string{"", "ab", "abab"}, []string{"a", "b", "aba", "abb", "aabb"}},
		{"(ab)+", []string{"ab", "abab"}, []string{"", "a", "aba"}},
		{"(ab)?", []string{"", "ab"}, []string{"a", "abab"}},
		{"(a|b)*", []string{"", "a", "b", "abba"}, []string{"c", "abc"}},
		{"(a|)*b", []string{"b", "ab", "aaab"}, []string{"", "a", "ba"}},
		{"(a?b?)+", []string{"", "a", "b", "ba", "abba"}, []string{"c"}},
		{"(a*b)*c?", []string{"", "b", "aab", "bab", "c", "abc"}, []string{"a", "ba", "ac", "cc", "cb"}},
		{"(a+)?b", []string{"b", "ab", "aab"}, []string{"a", "", "abb"}},
		{"((a)*)*", []string{"", "a", "aaa"}, []string{"b", "ab"}},
		{".", []string{"a", ".", "é", "\n", "\x00", "\r", "\u2028", "\U0010ffff", "\ufffd", "\xff", "\xc3"}, []string{"", "ab", "é\n", "\xc3\xc3", "\xe2\x82"}},
		{"..", []string{"ab", "éü", "\xff\xff", "\xe2\x82", "a\xff"}, []string{"é", "a", "abc", "\xe2\x82\xac"}},
		{".*", []string{"", "a", "\n\n", "\xff\xfe", "any text at all"}, nil},
		{"a.*b", []string{"ab", "a\nb", "a\xffb", "abbab"}, []string{"a", "b", "ba", "abc"}},
		{"é.", []string{"éx", "éé"}, []string{"é", "e", "\xc3x", "\xa9x"}},
		{"[abc]", []string{"a", "b", "c"}, []string{"", "d", "ab", "[abc]", "A"}},
		{"[a-c]", []string{"a", "b", "c"}, []string{"`", "d", "-", ""}},
		{"[a-cx0-2]+", []string{"a", "x", "0", "b1x2c"}, []string{"d", "3", "-", "y", "w"}},
		{"[^a-c]", []string{"d", "`", "é", "\n", "\xff", "-", "^"}, []string{"a", "b", "c", "", "dd"}},
		{"[^a]*", []string{"", "b", "b\xffc"}, []string{"a", "bac"}},
		{"[.*+?(){}|$]", []string{".", "*", "+", "?", "(", ")", "{", "}", "|", "$"}, []string{"", "a", "[", "]", "^", "-", "\\"}},
		{`[\]\[\^\-\\]`, []string{"]", "[", "^", "-", "\\"}, []string{"", "a", "/", "."}},
		{`[\--\/]`, []string{"-", ".", "/"}, []string{",", "0", "\\"}},
		{`[Z-\]]`, []string{"Z", "[", "\\", "]"}, []string{"Y", "^", "-"}},
		{`[\d]`, []string{"0", "9"}, []string{"d", "\\", "a", ""}},
		{`[a\d_-b]`, []string{"a", "5", "_", "`", "b"}, []string{"c", "^", "-", "d"}},
		{`[^\d\s]`, []string{"a", "_", "\r", "\xff"}, []string{"0", "9", " ", "\t", "\n", ""}},
		{`[^\w]`, []string{" ", "-", "é", "@", "[", "`", "{"}, []string{"a", "z", "A", "Z", "0", "9", "_"}},
		{"[é-ü]", []string{"é", "ê", "ü"}, []string{"è", "ý", "e", "\xc3", "\xa9"}},
		{"[\U0010ffff-\U0010ffff]", []string{"\U0010ffff"}, []string{"\U0010fffe", "\xff"}},
		{"[\ufffc-\ufffe]", []string{"\ufffc", "\ufffd", "\ufffe", "\xff", "\x80"}, []string{"\ufffb", "\uffff", "\xff\xff"}},
		{"\ufffd", []string{"\ufffd", "\xff", "\xc3"}, []string{"", "\xc3\xa9", "\xef\xbf", "?"}},
		{"\ufffd\ufffd", []string{"\ufffd\xff", "\xef\xbf", "\xc0\x80"}, []string{"\xff", "\ufffd"}},
		{"[^\ufffd]", []string{"a"}, []string{"\xff", "\ufffd"}},
		{"\ufffd\ufffd\ufffd", []string{"\xed\xa0\x80"}, nil},
		{`\d+\.\w*`, []string{"1.", "22.a_Z"}, []string{".", "1", "1a", "1.-", "a."}},
		{`\.\*\+\?\(\)\[\]\{\}\|\^\$\\\-\/`, []string{`.*+?()[]{}|^$\-/`}, []string{"", ".", `\.`, `.*+?()[]{}|^$\-`}},
		{`\(a\)*`, []string{"(a", "(a)", "(a))"}, []string{"a", "(a)(a)", ""}},
		{`a\|b`, []string{"a|b"}, []string{"a", "b", `a\|b`}},
		{"a-b", []string{"a-b"}, []string{"a", "b", "ab"}},
		{"5..", []string{"500", "5xx"}, []string{"50", "5000", "400"}},
	} {
		mustMatch(t, c.s, c.yes, c.no)
	}
}

func mustMatch(t *testing.T, pattern string, yes, no []string) {
	t.Helper()
	r := must(t, pattern)
	for _, s := range yes {
		if !r.Match(s) {
			t.Errorf("%q does not match %.50q, of %d bytes", pattern, s, len(s))
		}
	}
	for _, s := range no {
		if r.Match(s) {
			t.Errorf("%q matches %.50q, of %d bytes", pattern, s, len(s))
		}
	}
}

func TestMatchOfEachRune(t *testing.T) {
	for _, c := range []struct {
		s     string
		takes func(r rune) bool
	}{
		{".", func(r rune) bool { return true }},
		{"é", func(r rune) bool { return r == 'é' }},
		{`\d`, func(r rune) bool { return '0' <= r && r <= '9' }},
		{`[\d]`, func(r rune) bool { return '0' <= r && r <= '9' }},
		{`[^\d]`, func(r rune) bool { return r < '0' || r > '9' }},
		{`\s`, func(r rune) bool { return r == 32 || r == 9 || r == 10 }},
		{`[^\s]`, func(r rune) bool { return r != 32 && r != 9 && r != 10 }},
		{`\w`, func(r rune) bool {
			return strings.ContainsRune("0123456789ABCDEFGHIJKLMNOPQRSTUVWXYZ_abcdefghijklmnopqrstuvwxyz", r)
		}},
		{`[+-:a\s]`, func(r rune) bool { return '+' <= r && r <= ':' || r == 'a' || r == 32 || r == 9 || r == 10 }},
		{"[^b-yé-\uabcd]", func(r rune) bool { return r < 'b' || r > 'y' && r < 'é' || r > 0xabcd }},
	} {
		r := must(t, c.s)
		for one := rune(0); one <= utf8.MaxRune; one++ {
			if !utf8.ValidRune(one) {
				continue
			}
			if one > 0x2ffff && one < 0x10f000 { // runes of which nothing speaks
				one = 0x10f000
			}
			if r.Match(string(one)) != c.takes(one) {
				t.Fatalf("%q and the rune %x", c.s, one)
			}
		}
	}
}

// patterns is all patterns of n of the tokens at most.
func patterns(tokens []string, n int) []string {
	var list []string
	level := []string{""}
	for range n + 1 {
		var longer []string
		for _, s := range level {
			if isPattern(s, api.MaxDeep) {
				list = append(list, s)
			}
			for _, token := range tokens {
				if goesOn(s+token, api.MaxDeep) {
					longer = append(longer, s+token)
				}
			}
		}
		level = longer
	}
	return list
}

// texts is all texts of n of the parts at most.
func texts(parts []string, n int) []string {
	list := []string{""}
	level := list
	for range n {
		var longer []string
		for _, s := range level {
			for _, part := range parts {
				longer = append(longer, s+part)
			}
		}
		list = append(list, longer...)
		level = longer
	}
	return list
}

// plainMatch is Match of a pattern without \s, by the language's own library.
func plainMatch(t *testing.T, pattern string) func(s string) bool {
	t.Helper()
	other, err := regexp.Compile(`(?s)\A(?:` + pattern + `)\z`)
	if err != nil {
		t.Fatalf("the pattern %q: %v", pattern, err)
	}
	return other.MatchString
}

func TestMatchOfAllShortPatterns(t *testing.T) {
	matched, asked := 0, 0
	ask := func(list, all []string) {
		for _, pattern := range list {
			r, want := must(t, pattern), plainMatch(t, pattern)
			for _, s := range all {
				got := r.Match(s)
				if got != want(s) {
					t.Errorf("%q and %q: %v", pattern, s, got)
				}
				if got {
					matched++
				}
				asked++
			}
		}
	}
	ask(patterns(strings.Split("a b . * + ? ( ) |", " "), 5), texts([]string{"a", "b"}, 4))
	ask(patterns(strings.Split(`a é [ ] ^ - \ d .`, " "), 4), texts([]string{"a", "é", "\xff", "0", "-", "^"}, 2))
	if matched < 10000 || asked < 100000 {
		t.Error("what was asked tells little", matched, asked)
	}
}

func TestMatchOfDeepPatterns(t *testing.T) {
	all := texts([]string{"a", "b", "c"}, 6)
	for _, pattern := range []string{
		"((a|b)*c)*", "((a*b)+|c?)*a", "(a|ab)(c|bcb)*", "((a|b)(b|c)?)+", "(a?b?c?)*cab", "(((a)*b)*c)*", "((a|)+(b|)+)+c", "a(b(c(a(b(c)?)?)?)?)?", "(.a.|b*|c+)*", "([ab]+c?|[^a]b)*", "(|a|ab|abc)(|c|ca)b*", "(a+b+c+)+|(c+b+a+)+",
	} {
		r, want := must(t, pattern), plainMatch(t, pattern)
		for _, s := range all {
			if r.Match(s) != want(s) {
				t.Errorf("%q and %q: %v", pattern, s, r.Match(s))
			}
		}
	}
	deep := must(t, strings.Repeat("(", 20)+"a"+strings.Repeat(")*", 19)+")+")
	if deep.Match("b") || !deep.Match("") || !deep.Match("aaaa") {
		t.Error("of many groups")
	}
}

func TestMatchOfManyAtoms(t *testing.T) {
	for _, c := range []struct {
		s       string
		yes, no []int
	}{
		{strings.Repeat("a", 256), []int{256}, []int{0, 1, 64, 192, 255, 257, 512}},
		{strings.Repeat("a?", 128), []int{0, 1, 63, 64, 65, 127, 128}, []int{129, 256}},
		{strings.Repeat("a", 255) + "*", []int{254, 255, 256, 1000}, []int{0, 253}},
		{strings.Repeat("a", 255) + "?", []int{254, 255}, []int{0, 253, 256}},
		{"(" + strings.Repeat("a", 253) + ")+", []int{253, 506}, []int{0, 252, 254, 505, 507}},
		{strings.Repeat("a|", 127) + "aa", []int{1, 2}, []int{0, 3}},
		{strings.Repeat("(a|)", 64), []int{0, 1, 64}, []int{65}},
		{"[" + strings.Repeat("b", 253) + "a]", []int{1}, []int{0, 2}},
	} {
		for _, n := range c.yes {
			mustMatch(t, c.s, []string{strings.Repeat("a", n)}, nil)
		}
		for _, n := range c.no {
			mustMatch(t, c.s, nil, []string{strings.Repeat("a", n)})
		}
	}
	long := strings.Repeat("abcdefgh", 32)
	mustMatch(t, long, []string{long}, []string{long[1:], long[:255], long[:64] + "x" + long[65:], long[:255] + "x", "x" + long[1:]})
}

// A way that goes back would not end here in years.
func TestMatchDoesNotGoBack(t *testing.T) {
	a := strings.Repeat("a", 1<<16)
	for _, pattern := range []string{
		"(a*)*b", "(a+)+b", "(a|a)*b", "(a|aa)+b", "((a?)+)+b", "(.*)*b", ".*.*.*.*.*b", "(a*)*(a*)*(a*)*b", "([a-c]|a|.)*b", strings.Repeat("(", 20) + "a" + strings.Repeat("*)", 20) + "*b", strings.Repeat("a?", 60) + strings.Repeat("a", 60) + "a*b", "(" + strings.Repeat("a|", 100) + "a)*b",
	} {
		mustMatch(t, pattern, []string{a + "b"}, []string{a, a + "c", a + "bc"})
	}
	whole := strings.Repeat("a", 1<<20)
	mustMatch(t, "(a*)*", []string{whole}, []string{whole + "b"})
}

func TestMatchOfAnyBytes(t *testing.T) {
	some := string(sample.Bytes(3000))
	for _, pattern := range []string{".*", "[^a]*", `(\w|[^\w])*`, "(.|\n)*", `(.[^\d])*.?`, "\ufffd*", "([é-\ufffd]|[\x00-\x7f])*", "[^\ufffd]+"} {
		r, want := must(t, pattern), plainMatch(t, pattern)
		for i := range 500 {
			for _, s := range []string{some[i : i+1], some[i : i+3], some[i : i+10], some[i:]} {
				if r.Match(s) != want(s) {
					t.Errorf("%q and %.50q, of %d bytes: %v", pattern, s, len(s), r.Match(s))
				}
			}
		}
	}
}

// P6.3

func TestValuesOfSome(t *testing.T) {
	for s, want := range map[string][]string{
		"": {""}, "a": {"a"}, "abc": {"abc"}, "a|b": {"a", "b"}, "a|b|a": {"a", "b"}, "b|a|b|c|a": {"b", "a", "c"}, "a|bc|a|": {"a", "bc", ""}, "|": {""}, "|a": {"", "a"}, "||a||": {"", "a"}, "ab|a|b|ba": {"ab", "a", "b", "ba"}, "é|e|é": {"é", "e"}, "a a| a": {"a a", " a"},
		`\.`: {"."}, `a\|b|c`: {"a|b", "c"}, `\.\*\+\?\(\)\[\]\{\}\|\^\$\\\-\/`: {`.*+?()[]{}|^$\-/`}, `\-|-|\/|/`: {"-", "/"}, `\\|\|`: {`\`, "|"}, `\\d|\\\\`: {`\d`, `\\`}, "d|w|s": {"d", "w", "s"}, "A|a": {"A", "a"}, "\n|\x00": {"\n", "\x00"}, "\ufffd|\U0010ffff": {"\ufffd", "\U0010ffff"},
	} {
		got, is := must(t, s).Values()
		if !is || !slices.Equal(got, want) {
			t.Errorf("Values of %q: %q, %v, want %q", s, got, is, want)
		}
	}
	for _, s := range []string{
		".", "a.", "a*", "a+", "a?", "a|b*", "a*|b", "()", "(a)", "a(b)", "(a|b)", "a|()", "(a)|b", "[a]", "[ab]", "[^a]", "a[b]", "a|[b]", "[a]|b", `\d`, `\w`, `\s`, `a\d`, `a|\w`, `\s|a`, `\\\d`, `\.*`, `\.+|a`, `\..`, `[\.]`, "a|b|c|.", "|a?",
	} {
		if got, is := must(t, s).Values(); is || len(got) != 0 {
			t.Errorf("Values of %q: %q", s, got)
		}
	}
	many := strings.Repeat("|", api.MaxRex)
	if got, is := must(t, many).Values(); !is || !slices.Equal(got, []string{""}) {
		t.Errorf("Values of %q: %q", many, got)
	}
}

func TestValuesAreOnesOwn(t *testing.T) {
	r := must(t, "a|b|a|c")
	l, _ := r.Values()
	l[0], l[1] = "x", "y"
	l = append(l[:2], "z", "z")
	if again, is := r.Values(); !is || !slices.Equal(again, []string{"a", "b", "c"}) || r.Match("x") || !r.Match("a") {
		t.Errorf("%q, behind a change of %q", again, l)
	}
}

// P6.6

func TestOfTwoPatterns(t *testing.T) {
	some := []string{"", "a", "ab", "a|b", "|a", "a*", "(a|b)+", "b?a", "[^a]b", ".", "(ab)*", "b(a|)", "a+b*"}
	all := texts([]string{"a", "b"}, 4)
	for _, a := range some {
		for _, b := range some {
			ra, rb := must(t, a), must(t, b)
			either, both := must(t, a+"|"+b), must(t, "("+a+")("+b+")")
			for _, s := range all {
				if want := ra.Match(s) || rb.Match(s); either.Match(s) != want {
					t.Errorf("%q and %q: want %v", either.Text(), s, want)
				}
				want := false
				for i := range len(s) + 1 {
					want = want || ra.Match(s[:i]) && rb.Match(s[i:])
				}
				if both.Match(s) != want {
					t.Errorf("%q and %q: want %v", both.Text(), s, want)
				}
			}
		}
	}
}

// P6.7

func TestOfGroupsThatComeAgain(t *testing.T) {
	all := texts([]string{"a", "b", "c"}, 4)
	for _, pattern := range []string{"", "a", "ab", "a|bc", "a*", "a+b?", "[^c]", ".b", "(a|b)c", "(ab)+|c", "|a"} {
		one, many, some, none := must(t, pattern), must(t, "("+pattern+")*"), must(t, "("+pattern+")+"), must(t, "("+pattern+")?")
		if !many.Match("") || !none.Match("") || some.Match("") != one.Match("") {
			t.Errorf("(%s) and the empty text", pattern)
		}
		for _, s := range all {
			if one.Match(s) && !(many.Match(s) && many.Match(s+s) && many.Match(s+s+s) && some.Match(s) && some.Match(s+s) && none.Match(s)) {
				t.Errorf("(%s) and %q, again and again", pattern, s)
			}
			if none.Match(s) != (s == "" || one.Match(s)) || many.Match(s) != (s == "" || some.Match(s)) {
				t.Errorf("(%s) and %q", pattern, s)
			}
		}
	}
}

// P6.8

func TestPatternsWithValuesMatchJustThese(t *testing.T) {
	all := texts(strings.Split(`a b | . \`, " "), 3)
	found := 0
	for _, pattern := range patterns(strings.Split(`a b | \ . *`, " "), 5) {
		r := must(t, pattern)
		l, is := r.Values()
		if !is {
			continue
		}
		found++
		for _, s := range append(all, l...) {
			if r.Match(s) != slices.Contains(l, s) {
				t.Errorf("%q has the values %q, and %q: %v", pattern, l, s, r.Match(s))
			}
		}
	}
	if found < 200 {
		t.Error("what was asked tells little", found)
	}
}
