package match_test

import (
	"regexp"
	"slices"
	"strings"
	"testing"

	"manometer/api"
	"manometer/labels"
	"manometer/match"
	"manometer/sample"
)

// P7.3

func TestPrintOfSome(t *testing.T) {
	long := strings.Repeat("n", api.MaxName)
	for _, c := range []struct {
		l    []api.Matcher
		want string
	}{
		{nil, `{}`},
		{list(), `{}`},
		{list(eq("__name__", "up")), `up`},
		{list(eq("__name__", "_9Z")), `_9Z`},
		{list(eq("__name__", long)), long},
		{list(eq("__name__", "up"), eq("job", "a"), nr("code", "5..")), `up{job="a", code!~"5.."}`},
		{list(eq("__name__", "up"), ne("job", "")), `up{job!=""}`},
		{list(eq("__name__", "up"), eq("__name__", "up")), `up{__name__="up"}`},
		{list(eq("__name__", "up"), re("__name__", "u.")), `up{__name__=~"u."}`},
		{list(eq("__name__", "up"), api.Matcher{}), `up{?""}`},
		{list(eq("__name__", "bool")), `bool`},

		{list(eq("a", "x")), `{a="x"}`}, {list(ne("a", "x")), `{a!="x"}`}, {list(re("a", "x")), `{a=~"x"}`}, {list(nr("a", "x")), `{a!~"x"}`},
		{list(eq("a", "x"), ne("b", "y"), re("c", "z"), nr("d", "")), `{a="x", b!="y", c=~"z", d!~""}`},
		{list(eq("b", "x"), eq("a", "x"), eq("b", "x")), `{b="x", a="x", b="x"}`},
		{list(eq("a", "\n\"\\ é,}"), re("b", `\d`)), `{a="\n\"\\ é,}", b=~"\\d"}`},
		{list(eq("job", "a"), eq("__name__", "up")), `{job="a", __name__="up"}`},
		{list(ne("__name__", "up")), `{__name__!="up"}`}, {list(re("__name__", "up")), `{__name__=~"up"}`}, {list(nr("__name__", "up"), eq("a", "x")), `{__name__!~"up", a="x"}`}, {list(api.Matcher{Name: "__name__", Value: "up"}), `{__name__?"up"}`},
		{list(eq("__name__", "")), `{__name__=""}`}, {list(eq("__name__", "1up")), `{__name__="1up"}`}, {list(eq("__name__", "a b")), `{__name__="a b"}`}, {list(eq("__name__", "é")), `{__name__="é"}`}, {list(eq("__name__", "a:b"), eq("a", "x")), `{__name__="a:b", a="x"}`}, {list(eq("__name__", long+"n")), `{__name__="` + long + `n"}`},
		{list(eq("name", "up")), `{name="up"}`}, {list(eq("__name", "up"), eq("a", "x")), `{__name="up", a="x"}`},
		{list(api.Matcher{}), `{?""}`}, {list(api.Matcher{Kind: -1, Name: "-", Value: "\xff"}, api.Matcher{Kind: 5, Name: "a b"}, api.Matcher{Kind: 1 << 40, Name: "", Value: "x"}), "{-?\"\xff\", a b?\"\", ?\"x\"}"},
	} {
		was := slices.Clone(c.l)
		if got := match.Print(c.l); got != c.want || !slices.Equal(c.l, was) {
			t.Errorf("Print of %s: %.80q, want %.80q", show(c.l...), got, c.want)
		}
	}
	if got := match.Print(slices.Repeat(list(ne("a", "x")), 1000)); got != "{"+strings.Repeat(`a!="x", `, 999)+`a!="x"}` {
		t.Error("Print of many", len(got))
	}
}

func TestParseOfSome(t *testing.T) {
	long, most := strings.Repeat("n", api.MaxName), strings.Repeat("v", api.MaxValue)
	for _, c := range []struct {
		s    string
		want []api.Matcher
	}{
		{`up`, list(eq("__name__", "up"))}, {` up `, list(eq("__name__", "up"))}, {`_`, list(eq("__name__", "_"))}, {`_9Z`, list(eq("__name__", "_9Z"))}, {`Z9_a`, list(eq("__name__", "Z9_a"))},
		{`up{}`, list(eq("__name__", "up"))}, {` up { } `, list(eq("__name__", "up"))}, {`up   {}   `, list(eq("__name__", "up"))},
		{long, list(eq("__name__", long))}, {long + "n", list(eq("__name__", long+"n"))}, {most, list(eq("__name__", most))}, {most + "{}", list(eq("__name__", most))},
		{`up{job="a",code!~"5.."}`, list(eq("__name__", "up"), eq("job", "a"), nr("code", "5.."))},
		{`up{job="a", code!~"5..",}`, list(eq("__name__", "up"), eq("job", "a"), nr("code", "5.."))},
		{`  up  {  job  =  "a"  ,  code  !~  "5.."  ,  }  `, list(eq("__name__", "up"), eq("job", "a"), nr("code", "5.."))},
		{`up{a=""}`, list(eq("__name__", "up"), eq("a", ""))}, {`up{__name__="up"}`, list(eq("__name__", "up"), eq("__name__", "up"))}, {`up{__name__!="up"}`, list(eq("__name__", "up"), ne("__name__", "up"))},
		{`{a="x"}`, list(eq("a", "x"))}, {`{a!=""}`, list(ne("a", ""))}, {`{a=~"x"}`, list(re("a", "x"))}, {`{a!~".*"}`, list(nr("a", ".*"))}, {`{a="x",}`, list(eq("a", "x"))}, {` { a = "x" } `, list(eq("a", "x"))},
		{`{a="x",b!="y",c=~"z",d!~""}`, list(eq("a", "x"), ne("b", "y"), re("c", "z"), nr("d", ""))},
		{`{b="x",a="x",b="x"}`, list(eq("b", "x"), eq("a", "x"), eq("b", "x"))},
		{`{a="}",b=",",c="\"{=~",d=" x "}`, list(eq("a", "}"), eq("b", ","), eq("c", `"{=~`), eq("d", " x "))},
		{`{a="\n\\\""}`, list(eq("a", "\n\\\""))}, {`{a=~"\\d"}`, list(re("a", `\d`))}, {"{a=\"\t\x00\u2028\"}", list(eq("a", "\t\x00\u2028"))},
		{`{__name__="up"}`, list(eq("__name__", "up"))}, {`{__name__="1up"}`, list(eq("__name__", "1up"))}, {`{_9Z="x"}`, list(eq("_9Z", "x"))}, {`{` + long + `="` + most + `"}`, list(eq(long, most))},
		{`bool{by="x"}`, list(eq("__name__", "bool"), eq("by", "x"))},
		{`up{` + strings.Repeat(`a="",`, api.MaxMatchers-1) + `}`, append(list(eq("__name__", "up")), slices.Repeat(list(eq("a", "")), api.MaxMatchers-1)...)},
		{`{` + strings.Repeat(`a!="",`, api.MaxMatchers) + `}`, slices.Repeat(list(ne("a", "")), api.MaxMatchers)},
	} {
		got, err := match.Parse(c.s)
		if err != api.OK || !slices.Equal(got, c.want) {
			t.Errorf("Parse of %.80q: %s, %d", c.s, show(got...), err)
		}
	}
}

func mustRefuse(t *testing.T, s string, want api.Errno) {
	t.Helper()
	if got, err := match.Parse(s); err != want || len(got) != 0 {
		t.Errorf("Parse of %.80q: %s, %d, want %d", s, show(got...), err, want)
	}
}

func TestParseRefusesOtherForms(t *testing.T) {
	for _, s := range []string{
		``, ` `, `    `, `{`, `}`, ` { `, `up{`, `up }`, `up}`, `{}}`, `{{}}`, `{}{}`, `up{}{}`, `up{}up`, `{}up`, `{} up`, `up up`, `up{} ,`, `up,`, `,up`, `"up"`, `up"x"`, `up="x"`, `up=`,
		`1up`, `1`, `9{}`, `1{a="x"}`, ` 0 `, `-up`, `u-p`, `u.p`, `u:p`, `ép`, `upé`, "up\xff", "\xffup", "up\n", "\nup", "\tup", "up\t{}", "up\x00", `up[5]`, `(up)`, `!up`, `up!`, `up#`, `up{};`,
		`{,}`, `{ , }`, `up{,}`, `{,a="x"}`, `{a="x",,}`, `{a="x", ,}`, `{a="x",,b="x"}`, `{a="x" b="x"}`, `{a="x"b="x"}`, `{a="x";b="x"}`, `{a="x"`, `{a="x",`, `{a="x"}}`, `{a="x"},`, `{a="x"}x`, `a="x"}`, `{a="x",b}`, `{a="x",b=}`, `{a="x",}}`, `{a="x",{}}`,
		`{a}`, `{a=}`, `{a!=}`, `{a!}`, `{a!"x"}`, `{a~"x"}`, `{a=x}`, `{a='x'}`, `{="x"}`, `{!="x"}`, `{"x"}`, `{"a"="x"}`, `{a"x"}`, `{a=="x"}`, `{a!=="x"}`, `{a!!="x"}`, `{a=!"x"}`, `{a~="x"}`, `{a~!"x"}`, `{a=~~"x"}`, `{a!~~"x"}`, `{a=~="x"}`, `{a!=~"x"}`, `{a=!~"x"}`, `{a<"x"}`, `{a>"x"}`, `{a:"x"}`, `{a?"x"}`, `{a<>"x"}`, `{a==~"x"}`,
		`{a= ~"x"}`, `{a! ="x"}`, `{a! ~"x"}`, `{a = ~ "x"}`, `{a b="x"}`, `{a-b="x"}`, `{-="x"}`, `{é="x"}`, "{a\xff=\"x\"}", `{a.b="x"}`, `{a="x"y}`, `{a="x" y}`, `{a="x""y"}`,
		`{a="x}`, `{a="x\"}`, `{a="\}`, `{a="\t"}`, `{a="\1"}`, `{a=~"\d"}`, `{a="\`, `{a="`, "{a=\"\n\"}", "{a=\"\\\n\"}", "{\ta=\"x\"}", "{a\t=\"x\"}", "{a=\t\"x\"}", "{a=\"x\"\t}", "{a=\"x\"}\t", "{a=\"x\"\n}", "{a=\"x\",\n}", "{a\n=\"x\"}", "\ufeffup", "up\u00a0{}", "{a=\"x\"}\x00",
		`{1="\xff",}x`, `{1a="x"`, `{a="x"}` + strings.Repeat("x", 200), `{` + strings.Repeat(`a="x",`, 17), `{` + strings.Repeat(`a="x",`, 17) + `,}`, `{a="(",a=~"("`, `up{a=""`, `{a="",,}`, `{a="`, strings.Repeat("n", 129) + "}",
	} {
		mustRefuse(t, s, api.ErrForm)
	}
	for i := range 256 { // whatever stands behind a text, but a blank
		if c := byte(i); c != ' ' {
			mustRefuse(t, "up{}"+string([]byte{c}), api.ErrForm)
			mustRefuse(t, `{a="x"}`+string([]byte{c}), api.ErrForm)
		}
	}
}

func TestParseRefusesWhatIsNotRight(t *testing.T) {
	long, most := strings.Repeat("n", api.MaxName), strings.Repeat("v", api.MaxValue)
	deep := strings.Repeat("(", 21)
	for _, c := range []struct {
		s    string
		want api.Errno
	}{
		{`{}`, api.ErrEmpty}, {` { } `, api.ErrEmpty}, {`{a=""}`, api.ErrEmpty}, {`{a!="x"}`, api.ErrEmpty}, {`{a=~".*"}`, api.ErrEmpty}, {`{a!~"x"}`, api.ErrEmpty}, {`{__name__=""}`, api.ErrEmpty}, {`{a="",b!="x",c=~"x?",d!~".+",}`, api.ErrEmpty},
		{`{1="x"}`, api.ErrName}, {`{1a="x"}`, api.ErrName}, {`{0="",}`, api.ErrName}, {`up{1="x"}`, api.ErrName}, {`{` + long + `n="x"}`, api.ErrName}, {`{1=""}`, api.ErrName}, {`{1=~"("}`, api.ErrName}, {`{a="x",9!~"x"}`, api.ErrName}, {`{` + strings.Repeat("9", 1<<16) + `="x"}`, api.ErrName}, {"{1=\"\xff\"}", api.ErrName},
		{`{a="` + most + `v"}`, api.ErrValue}, {most + "v", api.ErrValue}, {most + `v{a="x"}`, api.ErrValue}, {most + `v{1="x"}`, api.ErrValue}, {most + `v{}`, api.ErrValue}, {"{a=\"\xff\"}", api.ErrValue}, {"{a!=\"\xc3\"}", api.ErrValue}, {"{a=~\"(\xff\"}", api.ErrValue}, {"up{a=\"\xff\",1=\"\"}", api.ErrValue}, {`{a="` + strings.Repeat(`\n`, 129) + `"}`, api.ErrValue},
		{`{a=~"("}`, api.ErrForm}, {`{a!~"*"}`, api.ErrForm}, {`up{a=~"\\"}`, api.ErrForm}, {`{a="x",b!~"a**",1="x"}`, api.ErrForm},
		{`{a=~"` + deep + `"}`, api.ErrDeep}, {`up{a="x",b!~"` + deep + `",1="x"}`, api.ErrDeep},
		{`{` + strings.Repeat(`a="x",`, 17) + `}`, api.ErrLong}, {`up{` + strings.Repeat(`a="x",`, 16) + `}`, api.ErrLong}, {`{` + strings.Repeat(`1="",`, 17) + `}`, api.ErrLong}, {`{` + strings.Repeat(`a="",`, 17) + `}`, api.ErrLong}, {most + "v{" + strings.Repeat(`a="x",`, 16) + `}`, api.ErrLong}, {`{` + strings.Repeat(`a=~"(" , `, 1<<12) + `}`, api.ErrLong},
	} {
		mustRefuse(t, c.s, c.want)
	}
}

// What a text of matchers is, as the chapter says it, in the way of another language.
const (
	oneForm = ` *([a-zA-Z0-9_]+) *(=~|!~|!=|=) *"((?:[^"\\\n]|\\["\\n])*)" *`
	setForm = `\{(?: *|` + oneForm + `(?:,` + oneForm + `)*(?:, *)?)\} *`
	allForm = `^ *(?:([a-zA-Z_][a-zA-Z0-9_]*) *(?:` + setForm + `)?|` + setForm + `)$`
)

var (
	oneMatcher  = regexp.MustCompile(oneForm)
	allMatchers = regexp.MustCompile(allForm)
)

// plainParse is Parse by that form.
func plainParse(s string) ([]api.Matcher, api.Errno) {
	whole := allMatchers.FindStringSubmatch(s)
	if whole == nil {
		return nil, api.ErrForm
	}
	var l []api.Matcher
	if whole[1] != "" {
		l = append(l, eq("__name__", whole[1]))
	}
	kinds := map[string]int{"=": api.MtEq, "!=": api.MtNe, "=~": api.MtRe, "!~": api.MtNr}
	for _, part := range oneMatcher.FindAllStringSubmatch(s, -1) {
		value := strings.NewReplacer(`\\`, `\`, `\"`, `"`, `\n`, "\n").Replace(part[3])
		l = append(l, api.Matcher{Kind: kinds[part[2]], Name: part[1], Value: value})
	}
	if err := plainRight(l); err != api.OK {
		return nil, err
	}
	return l, api.OK
}

func mustParse(t *testing.T, s string) api.Errno {
	t.Helper()
	got, err := match.Parse(s)
	want, wantErr := plainParse(s)
	if err != wantErr || !slices.Equal(got, want) {
		t.Errorf("Parse of %q: %s and %d, want %s and %d", s, show(got...), err, show(want...), wantErr)
	}
	return err
}

func TestParseOfTextsWithABitAmiss(t *testing.T) {
	seeds := []string{`up`, ` up { } `, `{}`, `{a="1"}`, `up{a!="1",}`, ` { b =~ "x" , } `, `a{b!~"2", a="\n"}`, `{a=~"\\\\",b!="\"",}`, `up {a="a",b="}"}`, `x { a = "=~" , b !~ " , " } `, `{a="",a!=""}`, `{a="!=",b=~"{}|,"}`}
	parts := strings.Split("{ } = ! ~ != =~ !~ , \" \\ n a 0 _ - \n \t \xff é ( {} \"\" \\n \\\\ ,, a=\"1\" ,b!=\"2\" a=~\"1\", up up{ 1up", " ")
	parts = append(parts, " ", "  ")
	told := map[api.Errno]int{}
	ask := func(s string) { told[mustParse(t, s)]++ }
	for _, seed := range seeds {
		for i := range len(seed) + 1 {
			ask(seed[:i])
			ask(seed[i:])
			for j := i; j <= len(seed); j++ {
				ask(seed[:i] + seed[j:])
				for _, part := range parts {
					ask(seed[:i] + part + seed[j:])
				}
			}
		}
	}
	if told[api.OK] < 500 || told[api.ErrForm] < 5000 || told[api.ErrEmpty] < 50 || told[api.ErrName] < 20 || told[api.ErrValue] < 20 {
		t.Error("what was asked tells little", told)
	}
}

func TestParseOfAnyTokens(t *testing.T) {
	tokens := strings.Split("{ { } } , = != =~ !~ \"\" \"x\" \".+\" \"(\" a up 1 _", " ")
	tokens = append(tokens, " ", " ")
	some := sample.Bytes(400000)
	right := 0
	for i := 0; i+8 <= len(some); i += 8 {
		var s strings.Builder
		for _, c := range some[i : i+1+int(some[i])%8] {
			s.WriteString(tokens[int(c)%len(tokens)])
		}
		if mustParse(t, s.String()) == api.OK {
			right++
		}
	}
	if right < 500 {
		t.Error("what was asked tells little", right)
	}
}

func TestParseOfLongTexts(t *testing.T) {
	n := 1 << 20
	blanks := strings.Repeat(" ", n)
	for _, c := range []struct {
		s    string
		want api.Errno
	}{
		{blanks + "up" + blanks + "{" + blanks + "}" + blanks, api.OK},
		{blanks, api.ErrForm},
		{blanks + "up" + blanks + "{" + blanks, api.ErrForm},
		{strings.Repeat("u", n), api.ErrValue},
		{strings.Repeat("1", n), api.ErrForm},
		{strings.Repeat("{", n), api.ErrForm},
		{"{" + strings.Repeat(",", n) + "}", api.ErrForm},
		{"{" + strings.Repeat("a", n), api.ErrForm},
		{`{a="` + strings.Repeat(`\`, n), api.ErrForm},
		{`{a="` + strings.Repeat(`\n`, n) + `"}`, api.ErrValue},
		{"{" + strings.Repeat(`a=~"1" , `, n/8) + "}", api.ErrLong},
		{"{" + strings.Repeat(`a=~"1" , `, n/8), api.ErrForm},
	} {
		got, err := match.Parse(c.s)
		if err != c.want || (len(got) != 0) != (err == api.OK) {
			t.Errorf("Parse of %.20q..: %d, want %d", strings.TrimLeft(c.s, " "), err, c.want)
		}
	}
}

// P7.4

func TestTextsThereAndBack(t *testing.T) {
	names := []string{"__name__", "a", "_9Z", strings.Repeat("n", api.MaxName)}
	values := []string{"up", "", "1up", "x y", `\"n,}{=~`, "\n", "\\\\", "é\ufffd\u2028", strings.Repeat("v", api.MaxName), strings.Repeat("v", api.MaxName+1), strings.Repeat("v", api.MaxValue)}
	for i := range 128 { // each byte that is UTF-8 by itself
		values = append(values, string(rune(i)), "x"+string(rune(i)))
	}
	var some []api.Matcher
	for kind := api.MtEq; kind <= api.MtNr; kind++ {
		for _, name := range names {
			for _, value := range values {
				if m := (api.Matcher{Kind: kind, Name: name, Value: value}); match.Check(m) == api.OK {
					some = append(some, m)
				}
			}
		}
	}
	asked := 0
	for i, m := range some {
		for _, l := range [][]api.Matcher{list(m), list(eq("__name__", "up"), m), list(m, eq("__name__", "up")), list(m, some[i*7%len(some)]), list(m, some[i*31%len(some)], some[i*3%len(some)]), append(slices.Repeat(list(m), api.MaxMatchers-1), ne("a", ""))} {
			if match.Right(l) != api.OK {
				continue
			}
			asked++
			s := match.Print(l)
			got, err := match.Parse(s)
			if err != api.OK || !slices.Equal(got, l) || match.Print(got) != s {
				t.Errorf("%s is printed %.80q, parsed %s, %d", show(l...), s, show(got...), err)
			}
			if name, braces := strings.CutSuffix(s, "}"); braces {
				again, err := match.Parse(" " + name + " , } ")
				if err != api.OK || !slices.Equal(again, l) {
					t.Errorf("with a comma behind %.80q: %s, %d", s, show(again...), err)
				}
			}
		}
	}
	if asked < 5000 {
		t.Error("what was asked tells little", asked)
	}
}

func TestLabelsAreATextOfMatchers(t *testing.T) {
	for _, l := range []api.Labels{of("a", "1"), of("__name__", "up", "job", "a\n"), of("a", "x", "b", "\"}")} {
		m, err := match.Parse(labels.Print(l))
		if err != api.OK || !match.All(m, l) || match.All(m, l[1:]) {
			t.Errorf("the text of %q asks for %s, %d", l, show(m...), err)
		}
	}
}
