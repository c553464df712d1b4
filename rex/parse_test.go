package rex_test

import (
	"regexp"
	"slices"
	"strings"
	"testing"
	"unicode/utf8"

	"manometer/api"
	"manometer/rex"
	"manometer/sample"
)

// must is the pattern of s.
func must(t *testing.T, s string) *rex.Rex {
	t.Helper()
	r, n, err := rex.Parse(s)
	if r == nil || n != 0 || err != api.OK {
		t.Fatalf("Parse of %q: %v, %d, %d", s, r != nil, n, err)
	}
	return r
}

func mustRefuse(t *testing.T, s string, at int, want api.Errno) {
	t.Helper()
	r, n, err := rex.Parse(s)
	if r != nil || n != at || err != want {
		t.Errorf("Parse of %q: %v, %d, %d, want %d, %d", s, r != nil, n, err, at, want)
	}
}

// P6.1

func TestParseOfSome(t *testing.T) {
	for _, c := range []struct {
		s    string
		size int
	}{
		{"", 0}, {"|", 0}, {"||", 0}, {"()", 0}, {"()*", 0}, {"(|)+", 0}, {"(())?", 0}, {"()()", 0},
		{"a", 1}, {"ab", 2}, {"a|b", 2}, {"a||b", 2}, {"|a", 1}, {"a|", 1}, {"é", 1}, {"éa", 2}, {"\ufffd", 1}, {"\U0010ffff", 1}, {"\x00\n\t\x7f", 4}, {"-/,:;<=>@#%&~'`\"!_", 18},
		{".", 1}, {"...", 3}, {"a*", 1}, {"a+", 1}, {"a?", 1}, {"a*b+c?", 3}, {".*", 1}, {"[a]*", 1}, {`\d+`, 1},
		{"(a)", 1}, {"(a)*", 1}, {"(a*)*", 1}, {"((a+)?b)+", 2}, {"a(b|c)+", 3}, {"(a)(b)", 2}, {"(a|b)|(c)", 3},
		{"[a]", 1}, {"[^a]", 1}, {"[abc]", 1}, {"[a-c]", 1}, {"[a-a]", 1}, {"[a-cx-z]", 1}, {"[ab-d]", 1}, {"[^a-cx]", 1}, {`[\d]`, 1}, {`[^\w\s]`, 1}, {`[\da]`, 1}, {`[a\d]`, 1}, {`[a-c\d]`, 1}, {"[.*+?(){}|$]", 1}, {"[((((]", 1}, {"[é-ü]", 1}, {"[a-é]", 1}, {"[\ufffd]", 1}, {"[\n]", 1}, {"[\U0010ffff-\U0010ffff]", 1},
		{`[\]]`, 1}, {`[\[]`, 1}, {`[\^]`, 1}, {`[^\^]`, 1}, {`[\-]`, 1}, {`[\\]`, 1}, {`[\/]`, 1}, {`[\--\/]`, 1}, {`[a-\}]`, 1}, {`[\.-\?]`, 1}, {`[\(-z]`, 1}, {`[}-\}]`, 1}, {`[\}-\}]`, 1}, {`[\\-\]]`, 1}, {`[\--a]`, 1}, {`[\--\-\-]`, 1},
		{`\.\*\+\?\(\)\[\]\{\}\|\^\$\\\-\/`, 16}, {`\d\w\s`, 3}, {`\(`, 1}, {`\(\(\)`, 3}, {`\\*`, 1}, {`\|`, 1}, {`a\|b`, 3},
		{"[a][b]", 2}, {"[a]|[b]", 2}, {"([a])", 1}, {"[a]b(c)", 3},
	} {
		r := must(t, c.s)
		if r.Text() != c.s || r.Size() != c.size {
			t.Errorf("Parse of %q: %q of the size %d, want %d", c.s, r.Text(), r.Size(), c.size)
		}
	}
}

func TestParseRefusesSome(t *testing.T) {
	for s, at := range map[string]int{
		"*": 0, "+": 0, "?": 0, "a**": 2, "a*+": 2, "a+?": 2, "a??": 2, "a|*": 2, "(*": 1, "(*)": 1, "(|+)": 2, "()**": 3, "(a)+*": 4, "[a]*?": 4, "|?": 1,
		"{": 0, "}": 0, "^": 0, "$": 0, "]": 0, "a{2}": 1, "a}": 1, "^a": 0, "a$": 1, "a]": 1, "(a]": 2, "a|]": 2, "[a]]": 3,
		"(": 1, "((": 2, "(a": 2, "(a|": 3, "((a)": 4, "(()": 3, "(é": 3, ")": 0, "a)": 1, "())": 2, "(a))": 3, "|)": 1, ")(": 0, "a*)": 2,
		"[": 1, "[^": 2, "[a": 2, "[a-": 3, "[a-c": 4, "[é": 3, "[é-": 4, "[é-ü": 6, `[\`: 2, `[a-\`: 4, `[\d`: 3, `[\.`: 3, "a[": 2, "([a)": 4,
		"[]": 1, "[^]": 2, "[]a]": 1, "[-]": 1, "[-a]": 1, "[^-a]": 2, "[a-]": 3, "[^^]": 2, "[a^]": 2, "[[": 1, "[a[]": 2, "[[:alpha:]]": 1, "[--a]": 1, "[a--]": 3, "[a-^]": 3, "[a-[]": 3, "[a-c-e]": 4, `[\d-e]`: 3, `[a\w-z]`: 4, `[\.-\/-\?]`: 6, `[---]`: 1,
		"[b-a]": 3, "[^b-a]": 4, "[é-z]": 4, "[ü-é]": 4, "[a-z9-0]": 6, "[\U0010ffff-a]": 6, `[b-\.]`: 4, `[b-\-]`: 4, `[{-\^]`: 4, `[|-\{]`: 4, `[\]-\[]`: 5, `[\}-a]`: 4, `[\/-\-]`: 5,
		`[a-\d]`: 4, `[a-\w]`: 4, `[a-\s]`: 4, `[a-\q]`: 4, `[a-\é]`: 4, `[\q]`: 2, `[\D]`: 2, `[\n]`: 2, `[\` + "\n]": 2, `[\é]`: 2, `[^\b]`: 3,
		`[~-\.]`: 3, `[~-\}]`: 3, `[é-\}]`: 4, `[é-\`: 4, `[é-\d]`: 4, `[\}-\|]`: 5, `[\}-\`: 5,
		`\`: 1, `a\`: 2, `\q`: 1, `\D`: 1, `\W`: 1, `\S`: 1, `\b`: 1, `\n`: 1, `\t`: 1, `\0`: 1, `\x41`: 1, `\é`: 1, `\,`: 1, `\ `: 1, `\_`: 1, `\\\`: 3, `\d\`: 3, "\\\n": 1, `é\é`: 3, `(\a`: 2,
		"\xff": 0, "é\xff": 2, "a\xffb": 1, "\xc3": 0, "\xe2\x82": 0, "a\xe2\x82": 1, "\xed\xa0\x80": 0, "\xc0\x80": 0, "\xf4\x90\x80\x80": 0, "\ufffd\xff": 3, "(\xff": 1, "a*\xff": 2, "\\\xff": 1, "[\xff]": 1, "[^\xff]": 2, "[a\xff]": 2, "[a-\xff]": 3, "[\ufffd-\xff]": 5, "[\\\xff]": 2, "[a-\\\xff]": 4, "[\ufffd-\ufffd\xff]": 8, "\xff(": 0,
		"(?:a)": 1, "(?i)a": 1, "a{1,2}": 1, "^a$": 0, "a*?b": 2, `(a))\`: 3, "[b-a": 3, "*\xff": 0,
	} {
		mustRefuse(t, s, at, api.ErrForm)
	}
}

func TestParseOfLongTexts(t *testing.T) {
	for _, s := range []string{"a", ".", "|", "[", "(", "*", `\.`, "é", "\xff", "a)", ")"} {
		mustRefuse(t, strings.Repeat(s, api.MaxRex/len(s)+1), 0, api.ErrLong)
		mustRefuse(t, strings.Repeat(s, 1<<16), 0, api.ErrLong)
	}
	mustRefuse(t, string(sample.Bytes(api.MaxRex+1)), 0, api.ErrLong)
	for _, c := range []struct {
		s    string
		size int
	}{{"a", 256}, {"é", 128}, {`\.`, 128}, {"a*", 128}, {"|", 0}, {"()", 0}, {"(.)?", 64}, {"[abcdef]", 32}} {
		s := strings.Repeat(c.s, api.MaxRex/len(c.s))
		if r := must(t, s); r.Text() != s || r.Size() != c.size {
			t.Errorf("of many %q: the size %d", c.s, r.Size())
		}
	}
	must(t, strings.Repeat("a", api.MaxRex-1)+"*")
	mustRefuse(t, strings.Repeat("a", api.MaxRex-1)+"]", api.MaxRex-1, api.ErrForm)
	mustRefuse(t, strings.Repeat("a", api.MaxRex-1)+"(", api.MaxRex, api.ErrForm)
	mustRefuse(t, strings.Repeat("a", api.MaxRex-1)+"\xc3", api.MaxRex-1, api.ErrForm)
	must(t, "["+strings.Repeat("a", api.MaxRex-2)+"]")
	mustRefuse(t, "["+strings.Repeat("a", api.MaxRex-1), api.MaxRex, api.ErrForm)
}

func TestParseOfDeepTexts(t *testing.T) {
	open := func(n int) string { return strings.Repeat("(", n) }
	shut := func(n int) string { return strings.Repeat(")", n) }
	for _, s := range []string{
		open(20) + shut(20), open(20) + "a" + shut(20), open(20) + "a" + shut(20) + "*", strings.Repeat("()", 128), open(20) + shut(1) + "()" + shut(19) + open(20) + shut(20),
		open(20) + "[(((]" + shut(20), open(20) + `\(\(` + shut(20), open(20) + "|a|" + shut(20), strings.Repeat("(a|", 20) + shut(20), open(19) + "(a)(b)" + shut(19), "[" + open(200) + "]", strings.Repeat(`\(`, 100),
	} {
		must(t, s)
	}
	for s, at := range map[string]int{
		open(21): 20, open(22): 20, open(256): 20, open(21) + shut(21): 20, open(21) + "a" + shut(21): 20, open(20) + "a(": 21, open(20) + "a(b)" + shut(20): 21, open(20) + "a|(": 22, open(20) + "a*(": 22, open(20) + "[(](": 23, open(20) + `\((`: 22, open(20) + "é(": 22,
		"a" + open(21): 21, open(20) + shut(20) + open(21): 60, strings.Repeat("()", 50) + open(21): 120, strings.Repeat("(a|", 20) + "(": 60, open(20) + ")((": 22, open(21) + "*": 20, open(21) + "\xff": 20,
	} {
		mustRefuse(t, s, at, api.ErrDeep)
	}
	for s, at := range map[string]int{
		open(20): 20, open(20) + "*(": 20, open(20) + "]": 20, open(20) + `\`: 21, open(20) + "[": 21, open(20) + "[(": 22, open(20) + "[(-(": 24, open(20) + "a**(": 22, open(20) + shut(21): 40, "*" + open(21): 0, open(20) + "\xff(": 20, open(19) + "(a": 21, "[" + open(21): 22, open(20) + `\q(`: 21,
	} {
		mustRefuse(t, s, at, api.ErrForm)
	}
	mustRefuse(t, open(257), 0, api.ErrLong)
}

// What a pattern is, as the chapter says it, in the way of another language: its tokens, with groups told apart by their number alone.
const (
	signForm   = `[.*+?()\[\]{}|^$\\/-]`
	singleForm = `(?:[^\[\]^\\-]|\\` + signForm + `)`
	memberForm = `(\\[dws])|(` + singleForm + `)(?:-(` + singleForm + `))?`
	classForm  = `\[\^?(?:` + memberForm + `)+\]`
	atomForm   = `(?:\.|` + classForm + `|\\` + signForm + `|\\[dws]|[^.*+?()\[\]{}|^$\\])`
)

var (
	oneMember = regexp.MustCompile(memberForm)
	oneToken  = regexp.MustCompile(atomForm + `|[()|*+?]`)
	allTokens = regexp.MustCompile(`^(?:\(|(?:\)|` + atomForm + `)[*+?]?|\|)*$`)
)

// isPattern tells whether s is a pattern of so many groups one within the other at most.
func isPattern(s string, deep int) bool {
	if !utf8.ValidString(s) || !allTokens.MatchString(s) {
		return false
	}
	groups := 0
	for _, token := range oneToken.FindAllString(s, -1) {
		switch {
		case token == "(":
			groups++
		case token == ")":
			groups--
		case token[0] == '[' && !rises(token):
			return false
		}
		if groups < 0 || groups > deep {
			return false
		}
	}
	return groups == 0
}

// rises tells whether no member of a class goes down.
func rises(class string) bool {
	inner := strings.TrimPrefix(class[1:len(class)-1], "^")
	for _, m := range oneMember.FindAllStringSubmatch(inner, -1) {
		lo, hi := strings.TrimPrefix(m[2], `\`), strings.TrimPrefix(m[3], `\`)
		if hi != "" && hi < lo { // UTF-8 is in the order of its runes
			return false
		}
	}
	return true
}

// goesOn tells whether some pattern begins with s; one does that ends what s leaves open in one of a few ways, if any does.
func goesOn(s string, deep int) bool {
	for _, more := range []string{"", "]", "a]", ".]", "\U0010ffff]", "}]", "."} {
		for open := range strings.Count(s, "(") + 1 {
			if isPattern(s+more+strings.Repeat(")", open), deep) {
				return true
			}
		}
	}
	return false
}

// mustGo asks each text that begins with s, on which patterns may go, and has some of the tokens behind it, n at most; it answers how many faults there were.
func mustGo(t *testing.T, s string, tokens []string, n int) int {
	if isPattern(s, api.MaxDeep) {
		if r := must(t, s); r.Text() != s {
			t.Errorf("Text of %q: %q", s, r.Text())
		}
	} else {
		mustRefuse(t, s, len(s), api.ErrForm)
	}
	if n == 0 {
		return 0
	}
	faults := 0
	for _, token := range tokens {
		if goesOn(s+token, api.MaxDeep) {
			faults += mustGo(t, s+token, tokens, n-1)
			continue
		}
		want := api.ErrForm
		if token == "(" && goesOn(s+token, 1000) {
			want = api.ErrDeep
		}
		for _, more := range []string{"", "a", "*)", "(((", "-z]", "\xff"} {
			mustRefuse(t, s+token+more, len(s), want)
		}
		faults++
	}
	return faults
}

func TestParseFindsTheFirstFault(t *testing.T) {
	few := strings.Split(`a d é - . * ( ) [ ] ^ | \ }`, " ")
	many := append(strings.Split("b z 0 _ / , ~ + ? { $ s w q \t \x00 ü \ufffd \U0010ffff \xff \x80", " "), append(few, " ", "\n")...)
	faults := mustGo(t, "", few, 4)
	for _, s := range []string{
		"", "a", "(", "(a|", "a*", "(a)", "[", "[^", "[a", "[^a", "[a-c", `[\d`, `[\.`, `[a-\}`, `\`, `a|\`,
		"[a-", "[é-", "[~-", "[}-", "[|-", "[^b-", "[0-", `[\.-`, `[\}-`, `[\--`, "[\x00-", "[\U0010ffff-",
		`[a-\`, `[é-`, `[z-\`, `[}-\`, `[|-\`, `[{-\`, `[/-\`, `[0-\`, `[\]-\`, `[\--\`, "[\x00-\\", `[\}-\`,
	} {
		faults += mustGo(t, s, many, 2)
	}
	for _, s := range []string{strings.Repeat("(", 19), strings.Repeat("(", 20), strings.Repeat("(", 20) + "a", strings.Repeat("(", 20) + "[", strings.Repeat("(", 20) + `\`} {
		faults += mustGo(t, s, few, 2)
	}
	if faults < 5000 {
		t.Error("what was asked tells little", faults)
	}
}

func TestParseOfAnyBytes(t *testing.T) {
	some := sample.Bytes(200000)
	letters := `ab.*+?()[]|\-^é`
	refused := 0
	for i := 0; i+12 <= len(some); i += 12 {
		raw := slices.Clone(some[i : i+12])
		for _, s := range []string{string(raw), mapped(raw, letters)} {
			r, n, err := rex.Parse(s)
			switch {
			case err == api.OK:
				if n != 0 || r.Text() != s || !isPattern(s, api.MaxDeep) {
					t.Errorf("Parse of %q: %d", s, n)
				}
			case err != api.ErrForm || r != nil || n > len(s) || isPattern(s, api.MaxDeep) || !goesOn(s[:n], api.MaxDeep):
				t.Errorf("Parse of %q: %d, %d", s, n, err)
			default:
				refused++
			}
		}
	}
	if refused < 1000 {
		t.Error("what was asked tells little", refused)
	}
}

// mapped is the letters that the bytes stand for.
func mapped(b []byte, letters string) string {
	runes := []rune(letters)
	var s strings.Builder
	for _, c := range b {
		s.WriteRune(runes[int(c)%len(runes)])
	}
	return s.String()
}

func TestParseAgain(t *testing.T) {
	for _, s := range []string{"a(b|c)+", "[^a-c]*", "x|y|x"} {
		a, b := must(t, s), must(t, s)
		if a == b {
			t.Errorf("Parse of %q: one and the same", s)
		}
		for _, text := range []string{"", "a", "abc", "x", "dd"} {
			if a.Match(text) != b.Match(text) || a.Match(text) != a.Match(text) {
				t.Errorf("%q tells two things of %q", s, text)
			}
		}
	}
}

// What no call made.

func TestUnmade(t *testing.T) {
	for _, r := range []*rex.Rex{nil, {}, new(rex.Rex)} {
		for _, s := range []string{"", "a", "\xff"} {
			if r.Match(s) {
				t.Errorf("matches %q", s)
			}
		}
		l, is := r.Values()
		if r.Text() != "" || r.Size() != 0 || len(l) != 0 || is {
			t.Errorf("%q, %d, %q, %v", r.Text(), r.Size(), l, is)
		}
	}
	empty := must(t, "")
	if l, is := empty.Values(); !empty.Match("") || !is || !slices.Equal(l, []string{""}) {
		t.Errorf("the pattern without a text is not taken as made: %q, %v", l, is)
	}
}
