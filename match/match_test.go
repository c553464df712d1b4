package match_test

import (
	"fmt"
	"math"
	"regexp"
	"slices"
	"strings"
	"testing"

	"manometer/api"
	"manometer/labels"
	"manometer/match"
	"manometer/rex"
	"manometer/sample"
)

func eq(name, value string) api.Matcher { return api.Matcher{Kind: api.MtEq, Name: name, Value: value} }
func ne(name, value string) api.Matcher { return api.Matcher{Kind: api.MtNe, Name: name, Value: value} }
func re(name, value string) api.Matcher { return api.Matcher{Kind: api.MtRe, Name: name, Value: value} }
func nr(name, value string) api.Matcher { return api.Matcher{Kind: api.MtNr, Name: name, Value: value} }

func list(l ...api.Matcher) []api.Matcher { return l }

// show is what stands for matchers where a test fails.
func show(l ...api.Matcher) string {
	var s strings.Builder
	for _, m := range l[:min(len(l), 20)] {
		fmt.Fprintf(&s, "[%d %.70q %.70q]", m.Kind, m.Name, m.Value)
	}
	return s.String()
}

// of is the labels of names and values that stand by turns.
func of(parts ...string) api.Labels {
	var l api.Labels
	for i := 0; i < len(parts); i += 2 {
		l = append(l, api.Label{Name: parts[i], Value: parts[i+1]})
	}
	return l
}

// must is the Set of l.
func must(t *testing.T, l []api.Matcher) *match.Set {
	t.Helper()
	s, err := match.New(l)
	if s == nil || err != api.OK {
		t.Fatalf("New of %s: %v, %d", show(l...), s != nil, err)
	}
	return s
}

// P7.1

func TestCheckOfSome(t *testing.T) {
	long := strings.Repeat("n", api.MaxName)
	most := strings.Repeat("v", api.MaxValue)
	for _, c := range []struct {
		m    api.Matcher
		want api.Errno
	}{
		{eq("a", "x"), api.OK}, {ne("a", "x"), api.OK}, {re("a", "x"), api.OK}, {nr("a", "x"), api.OK},
		{eq("a", ""), api.OK}, {ne("a", ""), api.OK}, {re("a", ""), api.OK}, {nr("a", ""), api.OK},
		{eq("__name__", "1up"), api.OK}, {eq("_9Z", "\x00\n\"\\ é\ufffd"), api.OK}, {re("__tenant_id__", `a(b|c)+\.[^x-z]?`), api.OK},
		{eq("a", "("), api.OK}, {ne("a", "a**"), api.OK}, {eq("a", strings.Repeat("(", 21)), api.OK}, {ne("a", `\`), api.OK},
		{eq(long, most), api.OK}, {nr(long, most), api.OK}, {re("a", strings.Repeat("é", api.MaxValue/2)), api.OK}, {nr("a", strings.Repeat("(", 20)+strings.Repeat(")", 20)), api.OK},

		{api.Matcher{}, api.ErrKind}, {api.Matcher{Name: "a", Value: "x"}, api.ErrKind}, {api.Matcher{Kind: -1, Name: "a"}, api.ErrKind}, {api.Matcher{Kind: 5, Name: "a", Value: "x"}, api.ErrKind},
		{api.Matcher{Kind: math.MaxInt, Name: "a"}, api.ErrKind}, {api.Matcher{Kind: math.MinInt, Name: "a"}, api.ErrKind}, {api.Matcher{Kind: 1 << 32, Name: "a"}, api.ErrKind}, {api.Matcher{Kind: 1<<32 + 1, Name: "a"}, api.ErrKind},
		{api.Matcher{Name: "1", Value: "\xff"}, api.ErrKind}, {api.Matcher{Kind: 5, Name: "", Value: "("}, api.ErrKind},

		{eq("", "x"), api.ErrName}, {ne("1", "x"), api.ErrName}, {re("a-b", "x"), api.ErrName}, {nr("é", "x"), api.ErrName}, {eq(" a", "x"), api.ErrName}, {eq("a\n", "x"), api.ErrName}, {eq("a:b", "x"), api.ErrName}, {eq("\xff", ""), api.ErrName},
		{eq(long+"n", "x"), api.ErrName}, {nr(long+"n", "x"), api.ErrName}, {re("", "("), api.ErrName}, {re("9", "\xff"), api.ErrName}, {ne("a.", most+"v"), api.ErrName},

		{eq("a", most+"v"), api.ErrValue}, {ne("a", most+"v"), api.ErrValue}, {re("a", most+"v"), api.ErrValue}, {nr("a", most+"v"), api.ErrValue}, {re("a", strings.Repeat("v", api.MaxRex+1)), api.ErrValue},
		{eq("a", "\xff"), api.ErrValue}, {ne("a", "x\xc3"), api.ErrValue}, {re("a", "\xff"), api.ErrValue}, {nr("a", "\xed\xa0\x80"), api.ErrValue}, {re("a", "(\xff"), api.ErrValue}, {nr("a", strings.Repeat("(", 129)), api.ErrValue},

		{re("a", "("), api.ErrForm}, {nr("a", "("), api.ErrForm}, {re("a", "a**"), api.ErrForm}, {nr("a", `\`), api.ErrForm}, {re("a", "[b-a]"), api.ErrForm}, {nr("a", "^a$"), api.ErrForm}, {re("a", ")"), api.ErrForm}, {re("a", "*"), api.ErrForm},
		{re("a", strings.Repeat("(", 21)), api.ErrDeep}, {nr("a", strings.Repeat("(", 21)+strings.Repeat(")", 21)), api.ErrDeep},
	} {
		if got := match.Check(c.m); got != c.want {
			t.Errorf("Check of %s: %d, want %d", show(c.m), got, c.want)
		}
	}
}

// plainCheck is Check, sentence by sentence.
func plainCheck(m api.Matcher) api.Errno {
	if !slices.Contains([]int{api.MtEq, api.MtNe, api.MtRe, api.MtNr}, m.Kind) {
		return api.ErrKind
	}
	if !labels.Named(m.Name) {
		return api.ErrName
	}
	if !labels.Valued(m.Value) {
		return api.ErrValue
	}
	if m.Kind == api.MtRe || m.Kind == api.MtNr {
		_, _, err := rex.Parse(m.Value)
		return err
	}
	return api.OK
}

// someMatchers is matchers of all kinds, and of some that are none, with names and values of which not all are right.
func someMatchers() []api.Matcher {
	var l []api.Matcher
	for kind := -1; kind <= 6; kind++ {
		for _, name := range []string{"a", "b", "__name__", "", "1a", "é", strings.Repeat("a", 65)} {
			for _, value := range []string{"", "x", "up", "x|y", ".*", ".+", "(|x)", "[^x]*", `\d`, "*", "(", "a|*", strings.Repeat("(", 21), "\xff", "é", "\ufffd", strings.Repeat("x", 128), strings.Repeat("x", 129)} {
				l = append(l, api.Matcher{Kind: kind, Name: name, Value: value})
			}
		}
	}
	return l
}

// rightOnes is those of someMatchers that are right.
func rightOnes() []api.Matcher {
	return slices.DeleteFunc(someMatchers(), func(m api.Matcher) bool { return plainCheck(m) != api.OK })
}

func TestCheckOfAllKinds(t *testing.T) {
	told := map[api.Errno]int{}
	for _, m := range someMatchers() {
		want := plainCheck(m)
		told[want]++
		if got := match.Check(m); got != want {
			t.Errorf("Check of %s: %d, want %d", show(m), got, want)
		}
	}
	for _, err := range []api.Errno{api.OK, api.ErrKind, api.ErrName, api.ErrValue, api.ErrForm, api.ErrDeep} {
		if told[err] < 6 {
			t.Error("what was asked tells little", err, told[err])
		}
	}
}

func TestRightOfSome(t *testing.T) {
	fine, none := eq("a", "x"), api.Matcher{}
	for _, c := range []struct {
		l    []api.Matcher
		want api.Errno
	}{
		{list(fine), api.OK}, {list(fine, fine), api.OK}, {list(fine, eq("a", "y")), api.OK}, {list(eq("__name__", "up"), fine, nr("code", "5..")), api.OK},
		{slices.Repeat(list(fine), api.MaxMatchers), api.OK}, {append(slices.Repeat(list(eq("b", "")), api.MaxMatchers-1), fine), api.OK}, {append(list(fine), slices.Repeat(list(nr("b", "x")), api.MaxMatchers-1)...), api.OK},
		{list(ne("a", "")), api.OK}, {list(re("a", "x")), api.OK}, {list(re("a", ".+")), api.OK}, {list(nr("a", "")), api.OK}, {list(nr("a", ".*")), api.OK}, {list(nr("a", "x|")), api.OK},
		{list(eq("a", ""), fine), api.OK}, {list(fine, eq("a", "")), api.OK}, {list(ne("a", "x"), re("b", ".*"), nr("c", "x"), ne("d", "")), api.OK},

		{nil, api.ErrEmpty}, {list(), api.ErrEmpty}, {list(eq("a", "")), api.ErrEmpty}, {list(ne("a", "x")), api.ErrEmpty}, {list(re("a", "")), api.ErrEmpty}, {list(re("a", ".*")), api.ErrEmpty}, {list(re("a", "x?")), api.ErrEmpty}, {list(re("a", "x|")), api.ErrEmpty}, {list(nr("a", "x")), api.ErrEmpty}, {list(nr("a", ".")), api.ErrEmpty}, {list(eq("__name__", "")), api.ErrEmpty},
		{list(eq("a", ""), ne("b", "x"), re("c", ".*"), nr("d", ".+")), api.ErrEmpty}, {slices.Repeat(list(ne("a", "x")), api.MaxMatchers), api.ErrEmpty},

		{list(none), api.ErrKind}, {list(fine, none), api.ErrKind}, {list(fine, fine, eq("1", "x")), api.ErrName}, {list(fine, re("a", "\xff")), api.ErrValue}, {list(fine, re("a", "(")), api.ErrForm}, {list(fine, nr("a", strings.Repeat("(", 21)), fine), api.ErrDeep},
		{append(slices.Repeat(list(fine), api.MaxMatchers-1), none), api.ErrKind}, {list(eq("a", ""), none), api.ErrKind}, {list(eq("a", ""), eq("", "x")), api.ErrName}, {list(ne("a", "x"), re("b", "*")), api.ErrForm},
		{list(eq("", "x"), none), api.ErrName}, {list(none, eq("", "x")), api.ErrKind}, {list(re("a", "("), eq("a", "\xff")), api.ErrForm}, {list(eq("a", "\xff"), re("a", "(")), api.ErrValue}, {list(nr("a", strings.Repeat("(", 21)), eq("1", ""), none), api.ErrDeep},

		{slices.Repeat(list(fine), api.MaxMatchers+1), api.ErrLong}, {append(slices.Repeat(list(fine), api.MaxMatchers), none), api.ErrLong}, {append(list(none), slices.Repeat(list(fine), api.MaxMatchers)...), api.ErrLong}, {slices.Repeat(list(eq("a", "")), api.MaxMatchers+1), api.ErrLong}, {slices.Repeat(list(none), 1<<16), api.ErrLong},
	} {
		if got := match.Right(c.l); got != c.want {
			t.Errorf("Right of %d, %s: %d, want %d", len(c.l), show(c.l...), got, c.want)
		}
		s, err := match.New(c.l)
		if err != c.want || (s == nil) != (err != api.OK) {
			t.Errorf("New of %d, %s: %v, %d, want %d", len(c.l), show(c.l...), s != nil, err, c.want)
		}
	}
}

// plainRight is Right, sentence by sentence.
func plainRight(l []api.Matcher) api.Errno {
	if len(l) > 16 {
		return api.ErrLong
	}
	for _, m := range l {
		if err := plainCheck(m); err != api.OK {
			return err
		}
	}
	if slices.ContainsFunc(l, func(m api.Matcher) bool { return !plainOne(m, "") }) {
		return api.OK
	}
	return api.ErrEmpty
}

func TestRightOfPairs(t *testing.T) {
	some := someMatchers()
	told := map[api.Errno]int{}
	for i, a := range some {
		for j := range 40 {
			l := list(a, some[(i*7+j*j*31)%len(some)])
			want := plainRight(l)
			told[want]++
			if got := match.Right(l); got != want {
				t.Fatalf("Right of %s: %d, want %d", show(l...), got, want)
			}
		}
	}
	if told[api.OK] < 100 || told[api.ErrEmpty] < 100 || told[api.ErrDeep] < 20 {
		t.Error("what was asked tells little", told)
	}
}

// P7.2

// plainOne is One of a matcher whose pattern, if it has one, means the same to Go's library.
func plainOne(m api.Matcher, value string) bool {
	if plainCheck(m) != api.OK {
		return false
	}
	switch m.Kind {
	case api.MtEq:
		return value == m.Value
	case api.MtNe:
		return value != m.Value
	}
	if forms[m.Value] == nil {
		forms[m.Value] = regexp.MustCompile(`^(?s:` + m.Value + `)$`)
	}
	return forms[m.Value].MatchString(value) == (m.Kind == api.MtRe)
}

var forms = map[string]*regexp.Regexp{}

func someValues() []string {
	return []string{"", "x", "y", "up", "xx", "xy", "x|y", "5", "55", "é", "\ufffd", "\n", ".*", " x", "x ", "X", "\x00", strings.Repeat("x", 128), strings.Repeat("x", 129)}
}

func TestOneOfSome(t *testing.T) {
	for _, c := range []struct {
		m        api.Matcher
		yes, not []string
	}{
		{eq("a", "x"), []string{"x"}, []string{"", "y", "xx", "X", "x ", " x", "x\x00"}},
		{ne("a", "x"), []string{"", "y", "xx", "X", "\xff"}, []string{"x"}},
		{eq("a", ""), []string{""}, []string{"x", " ", "\x00"}},
		{ne("a", ""), []string{"x", " ", "\xff"}, []string{""}},
		{eq("a", ".*"), []string{".*"}, []string{"", "x"}},
		{ne("a", "x|y"), []string{"x", "y", ""}, []string{"x|y"}},
		{re("a", "5.."), []string{"503", "5..", "5\n\n", "5éé"}, []string{"404", "5", "50", "5033", "1503", " 503", ""}},
		{nr("a", "5.."), []string{"404", "5", "50", "5033", ""}, []string{"503", "5.."}},
		{re("a", "x|yy"), []string{"x", "yy"}, []string{"xy", "xx", "y", "xyy", "", "x|yy"}},
		{nr("a", "x|yy"), []string{"xy", "y", "xyy", ""}, []string{"x", "yy"}},
		{re("a", ""), []string{""}, []string{"x"}},
		{nr("a", ""), []string{"x", "\n"}, []string{""}},
		{re("a", ".*"), []string{"", "x", "\n", "\xff", strings.Repeat("x", 1<<16)}, nil},
		{nr("a", ".*"), nil, []string{"", "x", "\n", "\xff"}},
		{eq("a", strings.Repeat("x", 128)), []string{strings.Repeat("x", 128)}, []string{strings.Repeat("x", 127), strings.Repeat("x", 129)}},
		{eq("a", "\ufffd"), []string{"\ufffd"}, []string{"\xff"}},

		{api.Matcher{Name: "a", Value: "x"}, nil, []string{"x", "y", ""}},
		{api.Matcher{Kind: 5, Name: "a", Value: "x"}, nil, []string{"x", "y", ""}},
		{api.Matcher{}, nil, []string{"", "x"}},
		{eq("", "x"), nil, []string{"x", "y", ""}}, {ne("1", "x"), nil, []string{"x", "y", ""}}, {re("é", "x"), nil, []string{"x", "y", ""}}, {nr(strings.Repeat("a", 65), "x"), nil, []string{"x", "y", ""}},
		{eq("a", "\xff"), nil, []string{"\xff", "x", ""}}, {ne("a", "\xff"), nil, []string{"\xff", "x", ""}}, {eq("a", strings.Repeat("x", 129)), nil, []string{strings.Repeat("x", 129), ""}}, {ne("a", strings.Repeat("x", 129)), nil, []string{"x", ""}}, {nr("a", strings.Repeat("x", 129)), nil, []string{"x", ""}},
		{re("a", "("), nil, []string{"(", ""}}, {nr("a", "("), nil, []string{"(", "", "x"}}, {nr("a", "a**"), nil, []string{"a", ""}}, {nr("a", strings.Repeat("(", 21)), nil, []string{"", "x"}}, {re("a", "\xff"), nil, []string{"\xff", "\ufffd"}}, {nr("a", "\xff"), nil, []string{"\xff", "x"}},
	} {
		for _, value := range c.yes {
			if !match.One(c.m, value) {
				t.Errorf("%s does not let %.50q pass", show(c.m), value)
			}
		}
		for _, value := range c.not {
			if match.One(c.m, value) {
				t.Errorf("%s lets %.50q pass", show(c.m), value)
			}
		}
	}
}

func TestOneOfAllKinds(t *testing.T) {
	passed, kept := 0, 0
	for _, m := range someMatchers() {
		for _, value := range someValues() {
			want := plainOne(m, value)
			if got := match.One(m, value); got != want {
				t.Errorf("%s and %.50q: %v", show(m), value, got)
			}
			if want {
				passed++
			} else if plainCheck(m) == api.OK {
				kept++
			}
		}
	}
	if passed < 500 || kept < 500 {
		t.Error("what was asked tells little", passed, kept)
	}
}

func TestAllOfSome(t *testing.T) {
	x := of("__name__", "up", "code", "404", "job", "a")
	up := eq("__name__", "up")
	for _, c := range []struct {
		l    []api.Matcher
		x    api.Labels
		want bool
	}{
		{list(up, eq("job", "a"), nr("code", "5..")), x, true},
		{list(up, eq("job", "a"), nr("code", "4..")), x, false},
		{list(up, eq("job", "b"), nr("code", "5..")), x, false},
		{list(eq("__name__", "down"), eq("job", "a")), x, false},
		{list(up), x, true}, {list(up), nil, false}, {list(up), of("up", "__name__"), false}, {list(up), of("job", "up"), false},
		{list(ne("zone", ""), up), x, false}, {list(eq("zone", ""), up), x, true}, {list(re("zone", ".*"), up), x, true}, {list(ne("zone", "x"), up), x, true}, {list(nr("zone", "x"), up), x, true}, {list(nr("zone", ".*"), up), x, false}, {list(re("zone", ".+"), up), x, false},
		{list(up, up, up), x, true}, {list(up, ne("__name__", "up")), x, false}, {list(up, ne("__name__", "down"), re("__name__", "u.")), x, true},
		{list(eq("job", "a")), of("job", "a", "job", "b"), true}, {list(eq("job", "b")), of("job", "a", "job", "b"), false}, // the first of a name
		{list(eq("job", "\xff"), up), of("job", "\xff"), false}, {list(ne("job", "")), of("job", "\xff"), true}, {list(ne("job", "x")), of("job", "\xff"), false}, // the latter lets all series pass

		{nil, x, false}, {nil, nil, false}, {list(), x, false}, {list(ne("job", "b")), x, false}, {list(re("job", ".*")), x, false}, {list(eq("zone", "")), x, false}, {list(nr("job", "b"), ne("job", "c")), x, false},
		{list(up, api.Matcher{Name: "job", Value: "a"}), x, false}, {list(up, eq("1", "")), x, false}, {list(up, ne("job", "\xff")), x, false}, {list(up, nr("job", "(")), x, false}, {list(up, eq("", "")), x, false},
		{slices.Repeat(list(up), api.MaxMatchers), x, true}, {slices.Repeat(list(up), api.MaxMatchers+1), x, false},
	} {
		if got := match.All(c.l, c.x); got != c.want {
			t.Errorf("%s and %q: %v", show(c.l...), c.x, got)
		}
		if s, err := match.New(c.l); s.Match(c.x) != c.want || c.want && err != api.OK {
			t.Errorf("a Set of %s and %q: %v", show(c.l...), c.x, !c.want)
		}
	}
}

// plainAll is All, sentence by sentence.
func plainAll(l []api.Matcher, x api.Labels) bool {
	if plainRight(l) != api.OK {
		return false
	}
	for _, m := range l {
		value := ""
		for _, one := range slices.Backward(x) {
			if one.Name == m.Name {
				value = one.Value
			}
		}
		if !plainOne(m, value) {
			return false
		}
	}
	return true
}

// someSeries is labels, of which not all are right.
func someSeries() []api.Labels {
	l := []api.Labels{nil, {}, of("", "x"), of("c", "x"), of("b", "", "a", ""), of("b", "x", "b", "y", "a", "up", "a", "")}
	for _, a := range []string{"x", "y", "é", "5"} {
		for _, b := range []string{"x", "up", "\n"} {
			l = append(l, of("a", a), of("b", b), of("a", a, "b", b), of("__name__", b, "a", a), of("b", a, "c", b))
		}
	}
	return l
}

func TestAllOfPairs(t *testing.T) {
	some := rightOnes()
	passed, kept := 0, 0
	for i := range some {
		for j := range 9 {
			l := list(some[i], some[(i*5+j*j*17)%len(some)])
			right := plainRight(l) == api.OK
			s, _ := match.New(l)
			for _, x := range someSeries() {
				want := plainAll(l, x)
				if match.All(l, x) != want || s.Match(x) != want {
					t.Fatalf("%s and %q: %v, %v, want %v", show(l...), x, match.All(l, x), s.Match(x), want)
				}
				if want {
					passed++
				} else if right {
					kept++
				}
			}
		}
	}
	if passed < 1000 || kept < 1000 {
		t.Error("what was asked tells little", passed, kept)
	}
}

func TestSetHasItsOwn(t *testing.T) {
	l := list(eq("__name__", "up"), re("job", "a|b"), nr("code", "5.."))
	was := slices.Clone(l)
	x := of("__name__", "up", "code", "404", "job", "a")
	s := must(t, l)
	for i := range l {
		l[i] = eq("zone", "x")
	}
	if !s.Match(x) || !slices.Equal(s.List(), was) {
		t.Errorf("a Set changes with what it was made of: %s", show(s.List()...))
	}
	got := s.List()
	for i := range got {
		got[i] = api.Matcher{}
	}
	_ = append(got[:1], eq("zone", "x"))
	if !s.Match(x) || !slices.Equal(s.List(), was) {
		t.Errorf("a Set changes with its List: %s", show(s.List()...))
	}
	if y := slices.Clone(x); !s.Match(x) || !slices.Equal(x, y) {
		t.Error("a Set changes what it is asked", x)
	}
	again := must(t, was)
	if again == s || !slices.Equal(again.List(), s.List()) || !slices.Equal(was, again.List()) {
		t.Error("two Sets of the same are not alike")
	}
	for _, one := range [][]api.Matcher{list(eq("a", "x")), list(eq("a", ""), eq("a", ""), ne("a", "")), slices.Repeat(was, 5)} {
		if got := must(t, one).List(); !slices.Equal(got, one) {
			t.Errorf("List of %s: %s", show(one...), show(got...))
		}
	}
}

func TestUnmade(t *testing.T) {
	for _, s := range []*match.Set{nil, {}, new(match.Set)} {
		for _, x := range []api.Labels{nil, of("a", "x"), of("", "")} {
			if s.Match(x) {
				t.Errorf("lets %q pass", x)
			}
		}
		if l := s.List(); len(l) != 0 {
			t.Errorf("has the matchers %s", show(l...))
		}
	}
}

// P7.5

func TestTurned(t *testing.T) {
	values := someValues()
	some := sample.Bytes(2000)
	for i := 0; i+5 <= len(some); i += 5 {
		values = append(values, string(some[i:i+5]))
	}
	turns := []int{api.MtEq: api.MtNe, api.MtNe: api.MtEq, api.MtRe: api.MtNr, api.MtNr: api.MtRe}
	for _, m := range rightOnes() {
		other := m
		other.Kind = turns[m.Kind]
		for _, value := range values {
			if match.One(m, value) == match.One(other, value) {
				t.Errorf("%s and %s tell the same of %q", show(m), show(other), value)
			}
		}
	}
}

// P7.6

func TestNarrower(t *testing.T) {
	some := rightOnes()
	series := someSeries()
	less := 0
	for i, m := range some {
		fewer := list(some[(i*11)%len(some)], some[(i*29+3)%len(some)])
		if match.Right(fewer) != api.OK {
			continue
		}
		more := append(slices.Clone(fewer), m)
		turned := list(more[2], more[0], more[1])
		back := list(more[2], more[1], more[0])
		for _, x := range series {
			few, many := match.All(fewer, x), match.All(more, x)
			if many && !few {
				t.Errorf("%s lets %q pass, %s does not", show(more...), x, show(fewer...))
			}
			if many != (few && match.One(m, labels.Get(x, m.Name))) {
				t.Errorf("%s lets %q pass: %v", show(more...), x, many)
			}
			if match.All(turned, x) != many || match.All(back, x) != many || match.All(append(more, more...), x) != many {
				t.Errorf("%s hangs on the order, of %q", show(more...), x)
			}
			if few && !many {
				less++
			}
		}
	}
	if less < 100 {
		t.Error("what was asked tells little", less)
	}
}

func TestFormWithoutSigns(t *testing.T) {
	values := []string{"", "x", "up", "x y", "é", "\n", "-/,:;<=>@#%&~'`\"!_", "x_9", "\ufffd", strings.Repeat("x", 128)}
	for _, form := range values {
		for _, value := range append(values, "X", "xx", "x ", "u") {
			if match.One(re("a", form), value) != match.One(eq("a", form), value) || match.One(nr("a", form), value) != match.One(ne("a", form), value) {
				t.Errorf("the form %q is not = of %q", form, value)
			}
		}
	}
	for _, text := range []string{"a.b", "a|b", "(x)", `\d`, "x*", "[a-z]", "^$", "{}", "a?+"} {
		for _, value := range []string{text, "a", "axb", "x", "xx", "5", ""} {
			if match.One(re("a", rex.Quote(text)), value) != match.One(eq("a", text), value) {
				t.Errorf("the quoted form %q is not = of %q", text, value)
			}
		}
	}
}
