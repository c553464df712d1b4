package labels_test

import (
	"slices"
	"strings"
	"testing"

	"manometer/api"
	"manometer/labels"
)

// of is labels of names and values, one behind the other.
func of(texts ...string) api.Labels {
	var l api.Labels
	for pair := range slices.Chunk(texts, 2) {
		l = append(l, api.Label{Name: pair[0], Value: pair[1]})
	}
	return l
}

// many are n right labels.
func many(n int) api.Labels {
	var l api.Labels
	for i := range n {
		l = append(l, api.Label{Name: "n" + string(rune('A'+i/26)) + string(rune('a'+i%26)), Value: "v"})
	}
	return l
}

// rights are right labels, each list another one.
func rights() []api.Labels {
	return []api.Labels{
		nil,
		of("a", "1"),
		of("a", "1", "b", "2"),
		of("a", "2", "b", "1"),
		of("a", "12", "b", "2"),
		of("ab", "1"),
		of("b", "1"),
		of("A", "1", "Z", "2", "_", "3", "a", "4", "z9", "5"),
		of("__name__", "up", "job", "x", "zone", "ä\n\"\\"),
		of("__name__", "up"),
		of("_", "{a=\"1\", b=\"2\"}"),
		of("a", " ", "aa", "\x00", "aaa", "\t\r\n", "aaaa", "\U0010ffff\ufffd"),
		of(strings.Repeat("n", api.MaxName), strings.Repeat("v", api.MaxValue)),
		of("a", strings.Repeat("ä", api.MaxValue/2), "b", strings.Repeat("\n", api.MaxValue)),
		many(2),
		many(api.MaxLabels - 1),
		many(api.MaxLabels),
	}
}

// wrongs are labels that are not right, and why.
func wrongs() []struct {
	l    api.Labels
	want api.Errno
} {
	return []struct {
		l    api.Labels
		want api.Errno
	}{
		{many(api.MaxLabels + 1), api.ErrLong},
		{many(100), api.ErrLong},
		{append(of("", ""), many(api.MaxLabels)...), api.ErrLong},
		{make(api.Labels, api.MaxLabels+1), api.ErrLong},
		{make(api.Labels, api.MaxLabels), api.ErrName},
		{of("", "1"), api.ErrName},
		{of("1a", "1"), api.ErrName},
		{of("a b", "1"), api.ErrName},
		{of(strings.Repeat("n", api.MaxName+1), "1"), api.ErrName},
		{of("", ""), api.ErrName},
		{of("-", "\xff"), api.ErrName},
		{of("b", "1", "a-", "\xff"), api.ErrName},
		{of("b", "1", "", "1"), api.ErrName},
		{of("a", ""), api.ErrValue},
		{of("a", "\xff"), api.ErrValue},
		{of("a", strings.Repeat("v", api.MaxValue+1)), api.ErrValue},
		{of("a", "", "", "1"), api.ErrValue},
		{of("a", "1", "b", ""), api.ErrValue},
		{of("b", "1", "a", ""), api.ErrValue},
		{of("b", "1", "a", "\xff"), api.ErrValue},
		{of("b", "1", "b", ""), api.ErrValue},
		{of("b", "1", "a", "1"), api.ErrOrder},
		{of("b", "1", "b", "1"), api.ErrOrder},
		{of("b", "1", "b", "2"), api.ErrOrder},
		{of("b", "2", "b", "1"), api.ErrOrder},
		{of("a", "1", "c", "1", "b", "1"), api.ErrOrder},
		{of("a", "1", "B", "1"), api.ErrOrder},
		{of("aa", "1", "a", "1"), api.ErrOrder},
		{of("b", "1", "a", "1", "", "1"), api.ErrOrder},
		{of("b", "1", "a", "1", "c", ""), api.ErrOrder},
	}
}

// anyLists are lists of labels, right or not, each another one.
func anyLists() []api.Labels {
	lists := rights()
	for _, c := range wrongs() {
		lists = append(lists, c.l)
	}
	return append(lists,
		of("a", "2", "b", "2"),
		of("b", "2", "a", "1"),
		of("a", "1", "a", "2", "__name__", "x", "a", "3"),
		of("__name__", "up", "__name__", "down"),
		of("\xff", "\xff"),
	)
}

// mustBe asks for labels, one by one.
func mustBe(t *testing.T, got, want api.Labels, asked ...any) {
	t.Helper()
	if !slices.Equal(got, want) {
		t.Errorf("%q: %q, want %q", asked, got, want)
	}
}

// mustRefuse asks for an error, and for no labels beside it.
func mustRefuse(t *testing.T, got api.Labels, err, want api.Errno, asked ...any) {
	t.Helper()
	if err != want || len(got) != 0 {
		t.Errorf("%q: %q and %d, want %d", asked, got, err, want)
	}
}

// shuffles are lists of the labels of l in other orders.
func shuffles(l api.Labels) []api.Labels {
	if len(l) < 2 {
		return []api.Labels{l}
	}
	var lists []api.Labels
	for i := range l {
		rest := slices.Concat(l[:i], l[i+1:])
		for _, behind := range shuffles(rest) {
			lists = append(lists, append(api.Labels{l[i]}, behind...))
		}
	}
	return lists
}

func TestLimitsAndErrors(t *testing.T) {
	got := []int{
		api.MaxLabels, api.MaxName, api.MaxValue,
		int(api.ErrLong), int(api.ErrShort), int(api.ErrForm), int(api.ErrOver),
		int(api.ErrName), int(api.ErrValue), int(api.ErrTwice), int(api.ErrOrder),
	}
	if !slices.Equal(got, []int{16, 64, 128, 3, 6, 8, 9, 50, 51, 52, 53}) || api.NameLabel != "__name__" {
		t.Error(got, api.NameLabel)
	}
}

// P5.1

const nameBytes = "abcdefghijklmnopqrstuvwxyzABCDEFGHIJKLMNOPQRSTUVWXYZ0123456789_"

func TestNamedOfEachByte(t *testing.T) {
	for i := range 256 {
		c := string([]byte{byte(i)})
		in := strings.Contains(nameBytes, c)
		if got, want := labels.Named(c), in && (c < "0" || c > "9"); got != want {
			t.Errorf("Named of %q: %v", c, got)
		}
		for _, s := range []string{"a" + c, "_" + c, "a" + c + "b", "Z9" + c} {
			if labels.Named(s) != in {
				t.Errorf("Named of %q: %v", s, !in)
			}
		}
	}
}

func TestNamedOfSome(t *testing.T) {
	for _, s := range []string{"a", "_", "__name__", "__tenant_id__", "Az_09", "a1", "_1", nameBytes, strings.Repeat("x", 63), strings.Repeat("x", 64)} {
		if !labels.Named(s) {
			t.Errorf("%q is a name", s)
		}
	}
	for _, s := range []string{
		"", "0", "9a", "a.b", "a:b", "a-b", "a b", " a", "a ", "a\n", "ä", "aä", "ａ", "a\u0661", "aſ", "a\xff", "a\x00", "a\u212a", "a\ufffd",
		strings.Repeat("x", 65), strings.Repeat("x", 1000), strings.Repeat("x", 63) + "ä",
	} {
		if labels.Named(s) {
			t.Errorf("%q is no name", s)
		}
	}
}

func TestValuedOfSome(t *testing.T) {
	for _, s := range []string{
		"", " ", "\x00", "\n", "\"", "\\", "\x7f", "a", "ä", "\u20ac", "\U0001f600", "\ufffd", "\u07ff\u0800\ud7ff\ue000\uffff\U00010000\U0010ffff",
		strings.Repeat("x", 127), strings.Repeat("x", 128), strings.Repeat("ä", 64), strings.Repeat("\U0001f600", 32), "x" + strings.Repeat("ä", 63) + "x",
	} {
		if !labels.Valued(s) {
			t.Errorf("%q is a value", s)
		}
	}
	for _, s := range []string{
		"\x80", "\xbf", "\xc0\x80", "\xc1\xbf", "\xc3", "\xe0\x80\x80", "\xe0\x9f\xbf", "\xe2\x82", "\xed\xa0\x80", "\xed\xbf\xbf", "\xf0\x8f\xbf\xbf", "\xf0\x9f\x98",
		"\xf4\x90\x80\x80", "\xf5\x80\x80\x80", "\xff", "\xfe", "a\xff", "\xffa", "aä\xc3", "\xc3\xc3\xa4",
		strings.Repeat("x", 129), strings.Repeat("x", 1000), strings.Repeat("ä", 65), "x" + strings.Repeat("ä", 64), strings.Repeat("x", 127) + "\xc3",
	} {
		if labels.Valued(s) {
			t.Errorf("%q is no value", s)
		}
	}
}

func TestRightOfSome(t *testing.T) {
	for _, l := range append(rights(), api.Labels{}, of("Z", "1", "_", "1", "a", "1", "a0", "1", "aA", "1", "a_", "1", "aa", "1")) {
		if err := labels.Right(l); err != api.OK {
			t.Errorf("%q: %d", l, err)
		}
	}
	for _, c := range wrongs() {
		if err := labels.Right(c.l); err != c.want {
			t.Errorf("%q: %d, want %d", c.l, err, c.want)
		}
	}
}

func TestMakeIsByRisingNames(t *testing.T) {
	want := of("B", "4", "_", "3", "a", "2", "ab", "1")
	for _, l := range shuffles(want) {
		for i := range len(l) + 1 {
			asked := slices.Insert(slices.Clone(l), i, of("aa", "", "c", "")...)
			got, err := labels.Make(asked)
			if err != api.OK {
				t.Fatalf("%q: %d", asked, err)
			}
			mustBe(t, got, want, "Make", asked)
		}
	}
	full := many(api.MaxLabels)
	turned := slices.Clone(full)
	slices.Reverse(turned)
	got, err := labels.Make(turned)
	if err != api.OK {
		t.Error(err)
	}
	mustBe(t, got, full, "Make")
}

func TestMakeLeavesOutEmptyValues(t *testing.T) {
	for _, c := range []struct{ l, want api.Labels }{
		{nil, nil},
		{api.Labels{}, nil},
		{of("a", ""), nil},
		{of("b", "", "a", ""), nil},
		{of("b", "2", "a", "1", "c", ""), of("a", "1", "b", "2")},
		{of("a", "", "b", "2", "c", ""), of("b", "2")},
		{append(of("b", ""), many(api.MaxLabels)...), many(api.MaxLabels)},
	} {
		got, err := labels.Make(c.l)
		if err != api.OK {
			t.Errorf("%q: %d", c.l, err)
		}
		mustBe(t, got, c.want, "Make", c.l)
	}
	empty := many(600)
	for i := range empty {
		if i%50 != 0 {
			empty[i].Value = ""
		}
	}
	if got, err := labels.Make(empty); err != api.OK || len(got) != 12 || labels.Right(got) != api.OK {
		t.Errorf("of 600 with 12 values: %q and %d", got, err)
	}
}

func TestMakeRefuses(t *testing.T) {
	for _, c := range []struct {
		l    api.Labels
		want api.Errno
	}{
		{of("", "1"), api.ErrName},
		{of("", ""), api.ErrName},
		{of("1", "\xff"), api.ErrName},
		{of("a", "1", "b", "", "c-", ""), api.ErrName},
		{of("a", "1", "a", "1", "-", ""), api.ErrName},
		{of(strings.Repeat("n", api.MaxName+1), "1"), api.ErrName},
		{append(many(api.MaxLabels+1), of("-", "1")...), api.ErrName},
		{of("a", "\xff"), api.ErrValue},
		{of("a", "\xff", "-", "1"), api.ErrValue},
		{of("a", strings.Repeat("v", api.MaxValue+1)), api.ErrValue},
		{of("a", "1", "a", "\xff"), api.ErrValue},
		{append(many(api.MaxLabels+1), of("a", "\xff")...), api.ErrValue},
		{of("a", "1", "a", "1"), api.ErrTwice},
		{of("a", "1", "a", "2"), api.ErrTwice},
		{of("a", "1", "a", ""), api.ErrTwice},
		{of("a", "", "a", "1"), api.ErrTwice},
		{of("a", "", "a", ""), api.ErrTwice},
		{of("a", "1", "c", "1", "b", "1", "a", "1"), api.ErrTwice},
		{of("a", "", "c", "1", "b", "1", "a", ""), api.ErrTwice},
		{append(many(api.MaxLabels), many(1)...), api.ErrTwice},
		{append(of("a", "", "a", ""), many(api.MaxLabels+1)...), api.ErrTwice},
		{append(many(500), many(500)...), api.ErrTwice},
		{many(api.MaxLabels + 1), api.ErrLong},
		{append(of("b", ""), many(api.MaxLabels+1)...), api.ErrLong},
		{many(600), api.ErrLong},
	} {
		got, err := labels.Make(c.l)
		mustRefuse(t, got, err, c.want, "Make", c.l)
	}
}

// P5.2

func TestGetIsTheFirstOfThatName(t *testing.T) {
	for _, c := range []struct {
		l          api.Labels
		name, want string
	}{
		{nil, "a", ""},
		{nil, "", ""},
		{of("a", "1", "b", "2"), "a", "1"},
		{of("a", "1", "b", "2"), "b", "2"},
		{of("a", "1", "b", "2"), "c", ""},
		{of("a", "1", "b", "2"), "", ""},
		{of("a", "1", "b", "2"), "A", ""},
		{of("ab", "1"), "a", ""},
		{of("a", "1"), "ab", ""},
		{of("a", "1", "a", "2"), "a", "1"},
		{of("b", "1", "a", "", "a", "2"), "a", ""},
		{of("c", "1", "a", "2", "b", "3"), "a", "2"},
		{of("", "1"), "", "1"},
		{of("-\xff", "\xff"), "-\xff", "\xff"},
		{many(100), "nDv", "v"},
	} {
		if got := labels.Get(c.l, c.name); got != c.want {
			t.Errorf("Get of %q of %q: %q, want %q", c.name, c.l, got, c.want)
		}
	}
}

func TestByAndWithoutOfSome(t *testing.T) {
	mixed := of("c", "1", "a", "2", "__name__", "x", "a", "3", "", "4", "b", "", "__name__", "y")
	for _, c := range []struct {
		l           api.Labels
		names       []string
		by, without api.Labels
	}{
		{nil, nil, nil, nil},
		{nil, []string{"a"}, nil, nil},
		{of("a", "1", "b", "2"), nil, nil, of("a", "1", "b", "2")},
		{of("a", "1", "b", "2"), []string{}, nil, of("a", "1", "b", "2")},
		{of("a", "1", "b", "2"), []string{"a"}, of("a", "1"), of("b", "2")},
		{of("a", "1", "b", "2"), []string{"b", "b", "x"}, of("b", "2"), of("a", "1")},
		{of("a", "1", "b", "2"), []string{"b", "a"}, of("a", "1", "b", "2"), nil},
		{of("a", "1", "b", "2"), []string{"", "A", "ab", "a "}, nil, of("a", "1", "b", "2")},
		{of("ab", "1"), []string{"a", "abc"}, nil, of("ab", "1")},
		{of("__name__", "up", "a", "1"), nil, nil, of("a", "1")},
		{of("__name__", "up", "a", "1"), []string{"__name__"}, of("__name__", "up"), of("a", "1")},
		{of("__name__", "up", "a", "1"), []string{"a"}, of("a", "1"), nil},
		{of("__name", "1", "__name__x", "2"), nil, nil, of("__name", "1", "__name__x", "2")},
		{mixed, []string{"a"}, of("a", "2", "a", "3"), of("c", "1", "", "4", "b", "")},
		{mixed, []string{"b", "", "__name__"}, of("__name__", "x", "", "4", "b", "", "__name__", "y"), of("c", "1", "a", "2", "a", "3")},
	} {
		mustBe(t, labels.By(c.l, c.names), c.by, "By", c.l, c.names)
		mustBe(t, labels.Without(c.l, c.names), c.without, "Without", c.l, c.names)
	}
}

func TestByAndWithoutOfMany(t *testing.T) {
	l := slices.Repeat(many(676), 100)
	var names []string
	for _, one := range l {
		if one.Name != "nCc" {
			names = append(names, one.Name)
		}
	}
	if got := labels.By(l, names); len(got) != 675*100 {
		t.Error("By", len(got))
	}
	mustBe(t, labels.Without(l, names), slices.Repeat(of("nCc", "v"), 100), "Without")
}

func TestWithOfSome(t *testing.T) {
	full := many(api.MaxLabels)
	for _, c := range []struct {
		l           api.Labels
		name, value string
		want        api.Labels
	}{
		{nil, "a", "1", of("a", "1")},
		{nil, "a", "", nil},
		{of("b", "2"), "a", "1", of("a", "1", "b", "2")},
		{of("b", "2"), "c", "3", of("b", "2", "c", "3")},
		{of("a", "1", "c", "3"), "b", "2", of("a", "1", "b", "2", "c", "3")},
		{of("a", "1", "b", "2"), "a", "9", of("a", "9", "b", "2")},
		{of("a", "1", "b", "2"), "b", "2", of("a", "1", "b", "2")},
		{of("a", "1", "b", "2"), "a", "", of("b", "2")},
		{of("a", "1", "b", "2"), "c", "", of("a", "1", "b", "2")},
		{of("a", "1"), "a", "", nil},
		{of("a", "1"), "__name__", "up", of("__name__", "up", "a", "1")},
		{full, full[3].Name, "other", slices.Concat(full[:3], of(full[3].Name, "other"), full[4:])},
		{full, full[0].Name, "", full[1:]},
		{full, "a", "", full},
		{full[1:], "a", "1", append(of("a", "1"), full[1:]...)},
	} {
		got, err := labels.With(c.l, c.name, c.value)
		if err != api.OK {
			t.Errorf("With %q %q of %q: %d", c.name, c.value, c.l, err)
		}
		mustBe(t, got, c.want, "With", c.l, c.name, c.value)
	}
}

func TestWithRefuses(t *testing.T) {
	for _, c := range wrongs() {
		for _, name := range []string{"a", "b", "", "-"} {
			got, err := labels.With(c.l, name, "")
			mustRefuse(t, got, err, c.want, "With", c.l, name)
			got, err = labels.With(c.l, name, "\xff")
			mustRefuse(t, got, err, c.want, "With", c.l, name)
		}
	}
	full := many(api.MaxLabels)
	for _, c := range []struct {
		l           api.Labels
		name, value string
		want        api.Errno
	}{
		{nil, "", "1", api.ErrName},
		{nil, "", "", api.ErrName},
		{of("a", "1"), "1", "\xff", api.ErrName},
		{full, "a b", "1", api.ErrName},
		{full, strings.Repeat("a", api.MaxName+1), "", api.ErrName},
		{nil, "a", "\xff", api.ErrValue},
		{of("a", "1"), "a", strings.Repeat("v", api.MaxValue+1), api.ErrValue},
		{full, "a", "\xff", api.ErrValue},
		{full, "a", "1", api.ErrLong},
		{full, "z", "1", api.ErrLong},
	} {
		got, err := labels.With(c.l, c.name, c.value)
		mustRefuse(t, got, err, c.want, "With", c.l, c.name, c.value)
	}
}

func TestSameIsLabelByLabel(t *testing.T) {
	lists := anyLists()
	for i, a := range lists {
		for j, b := range lists {
			if got := labels.Same(a, slices.Clone(b)); got != (i == j) {
				t.Errorf("Same of %q and %q: %v", a, b, got)
			}
		}
	}
	if !labels.Same(nil, api.Labels{}) || !labels.Same(api.Labels{}, nil) {
		t.Error("nil and empty are the same")
	}
}

func TestCompareOfSome(t *testing.T) {
	for _, c := range []struct {
		a, b api.Labels
		want int
	}{
		{nil, nil, 0},
		{nil, api.Labels{}, 0},
		{nil, of("a", "1"), -1},
		{nil, of("", ""), -1},
		{of("a", "1"), of("a", "1"), 0},
		{of("a", "1"), of("a", "2"), -1},
		{of("a", "10"), of("a", "9"), -1},
		{of("a", "1"), of("a", "12"), -1},
		{of("a", ""), of("a", "1"), -1},
		{of("a", "\x7f"), of("a", "\xff"), -1},
		{of("a", "z"), of("a", "ä"), -1},
		{of("a", "2"), of("b", "1"), -1},
		{of("a", "1"), of("aa", "0"), -1},
		{of("B", "1"), of("a", "0"), -1},
		{of("Z", "1"), of("_", "0"), -1},
		{of("_", "1"), of("a", "0"), -1},
		{of("a", "1"), of("a", "1", "b", "2"), -1},
		{of("a", "1", "b", "2"), of("a", "2"), -1},
		{of("a", "1", "z", "9", "z", "9"), of("b", "0"), -1},
		{of("a", "1", "b", "2"), of("a", "1", "c", "1"), -1},
		{of("a", "1", "b", "2"), of("a", "1", "b", "3"), -1},
		{of("b", "1", "a", "9"), of("b", "2", "a", "1"), -1},
		{of("a", "1", "c", "1"), of("b", "1", "a", "1"), -1},
		{many(15), many(16), -1},
	} {
		if got := labels.Compare(c.a, c.b); got != c.want {
			t.Errorf("Compare of %q and %q: %d, want %d", c.a, c.b, got, c.want)
		}
		if got := labels.Compare(c.b, c.a); got != -c.want {
			t.Errorf("Compare of %q and %q: %d, want %d", c.b, c.a, got, -c.want)
		}
	}
}

// P5.6

func TestMakeLeavesRightLabels(t *testing.T) {
	for _, l := range rights() {
		got, err := labels.Make(l)
		if err != api.OK {
			t.Errorf("%q: %d", l, err)
		}
		mustBe(t, got, l, "Make", l)
	}
}

// P5.7

func TestCompareIsAnOrder(t *testing.T) {
	lists := anyLists()
	for i, a := range lists {
		for j, b := range lists {
			ab := labels.Compare(a, b)
			if ab < -1 || ab > 1 || (ab == 0) != (i == j) || ab != -labels.Compare(b, a) {
				t.Errorf("%q and %q: %d", a, b, ab)
			}
			for _, c := range lists {
				if bc := labels.Compare(b, c); ab == bc && labels.Compare(a, c) != ab {
					t.Errorf("%q, %q and %q: %d", a, b, c, ab)
				}
			}
		}
	}
}

// P5.8

func TestByAndWithoutPartRightLabels(t *testing.T) {
	l := of("Z", "0", "__name__", "1", "a", "2", "b", "3", "c", "4")
	for set := range 1 << len(l) {
		var names []string
		var in, out api.Labels
		for i, one := range l {
			switch {
			case set>>i&1 == 1:
				names = append(names, one.Name)
				in = append(in, one)
			case one.Name != api.NameLabel:
				out = append(out, one)
			}
		}
		slices.Reverse(names)
		by, without := labels.By(l, names), labels.Without(l, names)
		mustBe(t, by, in, "By", names)
		mustBe(t, without, out, "Without", names)
		if labels.Right(by) != api.OK || labels.Right(without) != api.OK {
			t.Errorf("by %q: parts that are not right", names)
		}
	}
}

// R4

func TestNothingHandedInIsChanged(t *testing.T) {
	for _, was := range anyLists() {
		l, names := slices.Clone(was), []string{"b", "a", "__name__", "A", ""}
		labels.Right(l)
		labels.Make(l)
		labels.Get(l, "a")
		labels.With(l, "a", "x")
		labels.With(l, "a", "")
		labels.By(l, names)
		labels.Without(l, names)
		labels.Same(l, was)
		labels.Compare(l, was)
		labels.Print(l)
		labels.Put(l)
		labels.Hash(l)
		if !slices.Equal(l, was) || !slices.Equal(names, []string{"b", "a", "__name__", "A", ""}) {
			t.Errorf("%q has become %q", was, l)
		}
	}
}

// roomy is a copy of l with room behind it, where an answer of the same memory would be written.
func roomy(l api.Labels) api.Labels { return append(make(api.Labels, 0, len(l)+20), l...) }

func TestAnswersAreNewMemory(t *testing.T) {
	was := of("a", "1", "b", "2", "c", "3")
	other := api.Label{Name: "x", Value: "y"}
	for i, call := range []func(api.Labels) api.Labels{
		func(l api.Labels) api.Labels { m, _ := labels.Make(l); return m },
		func(l api.Labels) api.Labels { m, _ := labels.With(l, "a", "1"); return m },
		func(l api.Labels) api.Labels { m, _ := labels.With(l, "d", "4"); return m },
		func(l api.Labels) api.Labels { m, _ := labels.With(l, "c", ""); return m },
		func(l api.Labels) api.Labels { return labels.By(l, []string{"a", "b", "c"}) },
		func(l api.Labels) api.Labels { return labels.By(l, []string{"a"}) },
		func(l api.Labels) api.Labels { return labels.Without(l, nil) },
		func(l api.Labels) api.Labels { return labels.Without(l, []string{"c"}) },
	} {
		l := roomy(was)
		got := call(l)
		if len(got) == 0 {
			t.Fatal("call", i)
		}
		want := slices.Clone(got)
		clear(l[:cap(l)])
		mustBe(t, got, want, "call", i)

		l = roomy(was)
		got = call(l)
		for k := range got {
			got[k] = other
		}
		got = append(got, other)
		mustBe(t, l, was, "call", i)
		if slices.Contains(l[:cap(l)], other) {
			t.Errorf("call %d wrote behind what was handed in", i)
		}
	}
}
