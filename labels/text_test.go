package labels_test

import (
	"regexp"
	"slices"
	"strings"
	"testing"

	"manometer/api"
	"manometer/labels"
	"manometer/sample"
)

// P5.3

func TestQuoteOfSome(t *testing.T) {
	for _, c := range []struct{ s, want string }{
		{"", `""`},
		{"a", `"a"`},
		{" a b ", `" a b "`},
		{`"`, `"\""`},
		{`\`, `"\\"`},
		{"\n", `"\n"`},
		{`\n`, `"\\n"`},
		{`\"`, `"\\\""`},
		{"a\"b\\c\nd", `"a\"b\\c\nd"`},
		{"\t\r\x00\x7f", "\"\t\r\x00\x7f\""},
		{"ä\u2028", "\"ä\u2028\""},
		{"\xff\xc3", "\"\xff\xc3\""},
		{"'`{},=", "\"'`{},=\""},
	} {
		if got := labels.Quote(c.s); got != c.want {
			t.Errorf("Quote of %q: %q, want %q", c.s, got, c.want)
		}
	}
}

func TestQuoteAndUnquoteOfEachByte(t *testing.T) {
	for i := range 256 {
		for _, s := range []string{string([]byte{byte(i)}), string([]byte{'a', byte(i), byte(i), 'b'}), string([]byte{'\\', byte(i)})} {
			want := `"` + strings.NewReplacer("\n", `\n`, `"`, `\"`, `\`, `\\`).Replace(s) + `"`
			q := labels.Quote(s)
			if q != want {
				t.Errorf("Quote of %q: %q", s, q)
			}
			for _, behind := range []string{"", "a", `"`, "\n", `\`, "\xff"} {
				got, n, err := labels.Unquote(q + behind)
				if got != s || n != len(q) || err != api.OK {
					t.Errorf("Unquote of %q: %q, %d, %d", q+behind, got, n, err)
				}
			}
		}
	}
	s := string(sample.Bytes(10000))
	if got, n, err := labels.Unquote(labels.Quote(s)); got != s || n != len(labels.Quote(s)) || err != api.OK {
		t.Error("of many bytes", len(got), n, err)
	}
}

func TestUnquoteOfSome(t *testing.T) {
	for _, c := range []struct {
		s, want string
		n       int
		err     api.Errno
	}{
		{`""`, "", 2, api.OK},
		{`"a"`, "a", 3, api.OK},
		{`"a"b"`, "a", 3, api.OK},
		{`"""`, "", 2, api.OK},
		{`"\""`, `"`, 4, api.OK},
		{`"\\"`, `\`, 4, api.OK},
		{`"\\""`, `\`, 4, api.OK},
		{`"\n"`, "\n", 4, api.OK},
		{`"\\n"`, `\n`, 5, api.OK},
		{`"a\"b\\c\nd" e`, "a\"b\\c\nd", 12, api.OK},
		{"\"\t\r\x00\xff\"", "\t\r\x00\xff", 6, api.OK},
		{"\"ä\"\n", "ä", 4, api.OK},
		{`"a"\x`, "a", 3, api.OK},

		{``, "", 0, api.ErrShort},
		{`"`, "", 0, api.ErrShort},
		{`"a`, "", 0, api.ErrShort},
		{`"\`, "", 0, api.ErrShort},
		{`"\"`, "", 0, api.ErrShort},
		{`"\\`, "", 0, api.ErrShort},
		{`"\\\"`, "", 0, api.ErrShort},
		{`"\n`, "", 0, api.ErrShort},
		{`"abc\`, "", 0, api.ErrShort},

		{`a`, "", 0, api.ErrForm},
		{` "a"`, "", 0, api.ErrForm},
		{`a"b"`, "", 0, api.ErrForm},
		{`'a'`, "", 0, api.ErrForm},
		{`\"a"`, "", 0, api.ErrForm},
		{"\n\"a\"", "", 0, api.ErrForm},
		{`"\t"`, "", 0, api.ErrForm},
		{`"\a`, "", 0, api.ErrForm},
		{`"\ "`, "", 0, api.ErrForm},
		{`"\N"`, "", 0, api.ErrForm},
		{`"\x41"`, "", 0, api.ErrForm},
		{"\"\n\"", "", 0, api.ErrForm},
		{"\"a\n", "", 0, api.ErrForm},
		{"\"\\\n\"", "", 0, api.ErrForm},
		{"\"\\\xff\"", "", 0, api.ErrForm},
		{"\"\\\"\n", "", 0, api.ErrForm},
		{`"\q\`, "", 0, api.ErrForm},
	} {
		got, n, err := labels.Unquote(c.s)
		if got != c.want || n != c.n || err != c.err {
			t.Errorf("Unquote of %q: %q, %d, %d, want %q, %d, %d", c.s, got, n, err, c.want, c.n, c.err)
		}
	}
}

func TestUnquoteBehindABackslash(t *testing.T) {
	for i := range 256 {
		s := string([]byte{'"', '\\', byte(i), '"', '"'})
		got, n, err := labels.Unquote(s)
		switch byte(i) {
		case '"', '\\', 'n':
			want := strings.ReplaceAll(s[2:3], "n", "\n")
			if got != want || n != 4 || err != api.OK {
				t.Errorf("Unquote of %q: %q, %d, %d", s, got, n, err)
			}
		default:
			if got != "" || n != 0 || err != api.ErrForm {
				t.Errorf("Unquote of %q: %q, %d, %d", s, got, n, err)
			}
		}
	}
}

func TestPrintOfSome(t *testing.T) {
	for _, c := range []struct {
		l    api.Labels
		want string
	}{
		{nil, `{}`},
		{api.Labels{}, `{}`},
		{of("a", "1"), `{a="1"}`},
		{of("a", "1", "b", "2"), `{a="1", b="2"}`},
		{of("b", "2", "a", "1", "a", ""), `{b="2", a="1", a=""}`},
		{of("a", "x\n\"y\\", "b", " "), `{a="x\n\"y\\", b=" "}`},
		{of("__name__", "up", "job", "ä"), `{__name__="up", job="ä"}`},
		{of("", "\xff", "-", "\t"), "{=\"\xff\", -=\"\t\"}"},
	} {
		if got := labels.Print(c.l); got != c.want {
			t.Errorf("Print of %q: %q, want %q", c.l, got, c.want)
		}
	}
	if got := labels.Print(slices.Repeat(of("a", "1"), 1000)); got != "{"+strings.Repeat(`a="1", `, 999)+`a="1"}` {
		t.Error("Print of many", len(got))
	}
}

func TestParseOfSome(t *testing.T) {
	for _, c := range []struct {
		s    string
		want api.Labels
	}{
		{`{}`, nil},
		{`{ }`, nil},
		{`   {   }   `, nil},
		{`{a="1"}`, of("a", "1")},
		{`{a="1",}`, of("a", "1")},
		{`{ b = "x" , }`, of("b", "x")},
		{`{a="1",b="2"}`, of("a", "1", "b", "2")},
		{`{a="1", b="2"}`, of("a", "1", "b", "2")},
		{`{b="2",a="1",}`, of("a", "1", "b", "2")},
		{` { a = "1" , b = "2" } `, of("a", "1", "b", "2")},
		{`  {  a  =  "1"  ,  b  =  "2"  ,  }  `, of("a", "1", "b", "2")},
		{`{a=" 1 ",b="}",c=",d=\"4\""}`, of("a", " 1 ", "b", "}", "c", `,d="4"`)},
		{`{a="\n\\\""}`, of("a", "\n\\\"")},
		{`{a="",b="2",c=""}`, of("b", "2")},
		{`{a=""}`, nil},
		{"{a=\"\t\u2028\"}", of("a", "\t\u2028")},
		{`{_9Z="1"}`, of("_9Z", "1")},
		{labels.Print(many(api.MaxLabels)), many(api.MaxLabels)},
	} {
		got, err := labels.Parse(c.s)
		if err != api.OK {
			t.Errorf("Parse of %q: %d", c.s, err)
		}
		mustBe(t, got, c.want, "Parse", c.s)
	}
}

func TestParseRefuses(t *testing.T) {
	twice := `{a="1",a="2"}`
	for _, s := range []string{
		``, ` `, `{`, `}`, `a`, `{ `, ` }`, `{{}`, `{}}`, `{}{}`, `{} a`, `a {}`, `{},`, `,{}`, `{,}`, `{ , }`, `{,a="1"}`, `{a="1",,}`, `{a="1", ,}`, `{a="1",,b="2"}`,
		`{a}`, `{a=}`, `{a=1}`, `{a='1'}`, `{="1"}`, `{"1"}`, `{a"1"}`, `{a=="1"}`, `{a!="1"}`, `{a=~"1"}`, `{a:"1"}`, `{a="1"`, `{a="1",`, `a="1"}`, `a="1"`, `{a="1"}}`, `{a="1"},`, `{a="1"}x`, `{a="1"} {}`,
		`{a="1" b="2"}`, `{a="1"b="2"}`, `{a="1";b="2"}`, `{a="1","b"="2"}`, `{"a"="1"}`, `{a b="1"}`, `{a-b="1"}`, `{-="1"}`, `{ä="1"}`, "{a\xff=\"1\"}", `{a.b="1"}`, `{a="1"",}`, `{a="1"x}`, `{a="1" x}`,
		`{a="1}`, `{a="1\"}`, `{a="\}`, `{a="\t"}`, `{a="\1"}`, "{a=\"\n\"}", "{a=\"\\\n\"}", "{\t}", "{a=\t\"1\"}", "\t{}", "{}\t", "{}\n", "\n{}", "{a\n=\"1\"}", "{a=\"1\"\n}", "{a=\"1\",\n}", "\ufeff{}", "{\u00a0}", "{}\x00",
		twice[:len(twice)-1], twice + "x", `{1="1",}}`, `{1="1"`, `{a="` + strings.Repeat("x", 200) + `"`, labels.Print(many(20)) + "}",
	} {
		got, err := labels.Parse(s)
		mustRefuse(t, got, err, api.ErrForm, "Parse", s)
	}
	for _, c := range []struct {
		s    string
		want api.Errno
	}{
		{`{1="1"}`, api.ErrName},
		{`{0a="1",}`, api.ErrName},
		{`{` + strings.Repeat("n", api.MaxName+1) + `="1"}`, api.ErrName},
		{`{1a=""}`, api.ErrName},
		{`{a="1",9="\n",a="1"}`, api.ErrName},
		{"{a=\"\xff\"}", api.ErrValue},
		{"{a=\"\xff\",1=\"1\"}", api.ErrValue},
		{`{a="` + strings.Repeat("x", api.MaxValue+1) + `"}`, api.ErrValue},
		{twice, api.ErrTwice},
		{`{a="1",a="1"}`, api.ErrTwice},
		{`{a="",a=""}`, api.ErrTwice},
		{`{a="1",b="2",a="",}`, api.ErrTwice},
		{labels.Print(append(many(api.MaxLabels+1), many(1)...)), api.ErrTwice},
		{labels.Print(many(api.MaxLabels + 1)), api.ErrLong},
		{labels.Print(many(600)), api.ErrLong},
	} {
		got, err := labels.Parse(c.s)
		mustRefuse(t, got, err, c.want, "Parse", c.s)
	}
}

// What a text of labels is, as the chapter says it, in the way of another language.
const (
	oneForm = ` *([a-zA-Z0-9_]+) *= *"((?:[^"\\\n]|\\["\\n])*)" *`
	allForm = `^ *\{(?: *|` + oneForm + `(?:,` + oneForm + `)*(?:, *)?)\} *$`
)

var (
	oneLabel  = regexp.MustCompile(oneForm)
	allLabels = regexp.MustCompile(allForm)
)

// plainParse is Parse by that form.
func plainParse(s string) (api.Labels, api.Errno) {
	if !allLabels.MatchString(s) {
		return nil, api.ErrForm
	}
	var l api.Labels
	for _, part := range oneLabel.FindAllStringSubmatch(s, -1) {
		value := strings.NewReplacer(`\\`, `\`, `\"`, `"`, `\n`, "\n").Replace(part[2])
		l = append(l, api.Label{Name: part[1], Value: value})
	}
	return labels.Make(l)
}

func mustParse(t *testing.T, s string) api.Errno {
	t.Helper()
	got, err := labels.Parse(s)
	want, wantErr := plainParse(s)
	if err != wantErr || !slices.Equal(got, want) {
		t.Errorf("Parse of %q: %q and %d, want %q and %d", s, got, err, want, wantErr)
	}
	return err
}

func TestParseOfTextsWithABitAmiss(t *testing.T) {
	seeds := []string{`{}`, ` { } `, `{a="1"}`, `{a="1",}`, ` { b = "x" , } `, `{b="2", a="\n"}`, `{a="\\",b="\"",}`, `{a="a",b="}"}`, `{ a = "=" , b = " , " } `, `{a="",a=""}`}
	parts := strings.Split("{ } = , \" \\ n a 0 _ - \n \t \xff ä {} \"\" \\n \\\\ ,, a=\"1\" ,b=\"2\" a=\"1\",", " ")
	parts = append(parts, " ", "  ")
	told := map[api.Errno]int{}
	ask := func(s string) { told[mustParse(t, s)]++ }
	for _, seed := range seeds {
		for i := range len(seed) + 1 {
			ask(seed[:i])
			ask(seed[i:])
			for j := i; j <= len(seed); j++ {
				ask(seed[:i] + seed[j:])
				for _, part := range parts {
					ask(seed[:i] + part + seed[j:])
				}
			}
		}
	}
	if told[api.OK] < 500 || told[api.ErrForm] < 5000 || told[api.ErrTwice] < 20 || told[api.ErrName] < 20 {
		t.Error("what was asked tells little", told)
	}
}

func TestParseOfLongTexts(t *testing.T) {
	n := 1 << 16
	for _, c := range []struct {
		s    string
		want api.Errno
	}{
		{strings.Repeat(" ", n) + "{" + strings.Repeat(" ", n) + "}" + strings.Repeat(" ", n), api.OK},
		{strings.Repeat("{", n), api.ErrForm},
		{"{" + strings.Repeat(" ", n), api.ErrForm},
		{"{" + strings.Repeat(",", n) + "}", api.ErrForm},
		{"{" + strings.Repeat("a", n), api.ErrForm},
		{"{" + strings.Repeat("a", n) + `="1"}`, api.ErrName},
		{`{a="` + strings.Repeat(`\`, n), api.ErrForm},
		{`{a="` + strings.Repeat(`\n`, n) + `"}`, api.ErrValue},
		{"{" + strings.Repeat(`a="1" , `, n) + "}", api.ErrTwice},
		{"{" + strings.Repeat(`a="1" , `, n), api.ErrForm},
	} {
		got, err := labels.Parse(c.s)
		if err != c.want || len(got) != 0 {
			t.Errorf("Parse of %q..: %d, want %d", c.s[:20], err, c.want)
		}
	}
}

// P5.6

func TestTextsThereAndBack(t *testing.T) {
	lists := rights()
	for i := range 128 { // each byte that is UTF-8 by itself
		lists = append(lists, of("a", string(rune(i)), "b", "x"+string(rune(i))))
	}
	for _, l := range lists {
		s := labels.Print(l)
		got, err := labels.Parse(s)
		if err != api.OK {
			t.Errorf("Parse of %q: %d", s, err)
		}
		mustBe(t, got, l, "Parse", s)
		if again := labels.Print(got); again != s {
			t.Errorf("%q is printed %q", s, again)
		}
	}
}
