package postings_test

import (
	"math"
	"slices"
	"strings"
	"testing"

	"manometer/api"
	"manometer/match"
	"manometer/postings"
	"manometer/sample"
)

// P10.2

// shop are some series; two have no code, one has no job, one has nothing.
func shop() plain {
	return plain{
		{20, of("__name__", "up", "code", "200", "job", "a")},
		{3, of("__name__", "up", "code", "500", "job", "a")},
		{1 << 40, of("__name__", "up", "code", "500", "job", "b")},
		{4, of("__name__", "down", "job", "c")},
		{0, of("job", "a")},
		{1<<64 - 1, of("code", "404")},
		{7, nil},
	}
}

func TestSelectOfSome(t *testing.T) {
	const far, last = 1 << 40, 1<<64 - 1
	x := indexOf(t, shop())
	for _, c := range []struct {
		m    []api.Matcher
		want []uint64
	}{
		{list(eq("job", "a")), nums(0, 3, 20)}, {list(eq("job", "b")), nums(far)}, {list(eq("job", "d")), nil}, {list(eq("zone", "a")), nil}, {list(eq("job", "A")), nil},
		{list(ne("job", "")), nums(0, 3, 4, 20, far)}, {list(ne("code", "")), nums(3, 20, far, last)}, {list(ne("zone", "")), nil},
		{list(re("job", "a|b")), nums(0, 3, 20, far)}, {list(re("job", ".+")), nums(0, 3, 4, 20, far)}, {list(re("code", "5..")), nums(3, far)}, {list(re("code", "5")), nil}, {list(re("zone", ".+")), nil}, {list(re("job", "[^a]")), nums(4, far)},
		{list(nr("code", "")), nums(3, 20, far, last)}, {list(nr("code", "|500")), nums(20, last)}, {list(nr("code", "5..|")), nums(20, last)}, {list(nr("zone", "")), nil}, {list(nr("job", ".*")), nil}, {list(nr("job", "x?")), nums(0, 3, 4, 20, far)},

		{list(eq("job", "a"), eq("code", "500")), nums(3)}, {list(eq("job", "a"), eq("job", "a")), nums(0, 3, 20)}, {list(eq("job", "a"), eq("job", "b")), nil}, {list(re("job", "a|b"), re("job", "b|c")), nums(far)},
		{list(eq("job", "a"), eq("code", "")), nums(0)}, {list(eq("code", ""), eq("job", "a")), nums(0)}, {list(eq("code", ""), ne("job", "")), nums(0, 4)}, {list(ne("code", ""), eq("job", "")), nums(last)},
		{list(eq("job", "a"), ne("code", "500")), nums(0, 20)}, {list(ne("code", "500"), ne("code", "")), nums(20, last)}, {list(ne("code", "500"), ne("code", "200"), ne("code", "")), nums(last)}, {list(ne("code", "300"), ne("job", "")), nums(0, 3, 4, 20, far)},
		{list(eq("job", "a"), re("code", "2..|")), nums(0, 20)}, {list(re("code", "|5.*"), re("job", ".")), nums(0, 3, 4, far)}, {list(re("zone", ".*"), eq("job", "c")), nums(4)}, {list(re("code", ""), eq("job", "c")), nums(4)},
		{list(nr("code", "5.."), eq("job", "a")), nums(0, 20)}, {list(nr("zone", ".+"), eq("job", "a")), nums(0, 3, 20)}, {list(nr("code", "2.*"), re("job", ".+"), eq("__name__", "up")), nums(3, far)}, {list(eq("zone", ""), eq("job", "a")), nums(0, 3, 20)},
		{list(eq("__name__", "up"), nr("job", "[ac]"), nr("code", "[^5].*")), nums(far)}, {list(eq("__name__", ""), eq("job", ""), ne("code", "")), nums(last)}, {list(ne("__name__", "up"), ne("__name__", "")), nums(4)},
		{slices.Repeat(list(eq("job", "a")), 16), nums(0, 3, 20)}, {append(slices.Repeat(list(eq("zone", "")), 15), re("job", "a")), nums(0, 3, 20)},
	} {
		mustSelect(t, x, c.m, c.want)
		slices.Reverse(c.m)
		mustSelect(t, x, c.m, c.want)
	}
}

func TestSelectOfTheExample(t *testing.T) {
	x := indexOf(t, plain{{2, of("job", "a")}, {1, of("job", "b")}})
	mustSelect(t, x, list(re("job", "a|b")), nums(1, 2))
}

func TestSelectRefusesWhatIsNotRight(t *testing.T) {
	fine := eq("job", "a")
	for _, p := range []plain{nil, shop()} {
		x := indexOf(t, p)
		for _, c := range []struct {
			m    []api.Matcher
			want api.Errno
		}{
			{nil, api.ErrEmpty}, {list(), api.ErrEmpty}, {list(eq("job", "")), api.ErrEmpty}, {list(ne("job", "a")), api.ErrEmpty}, {list(re("job", ".*")), api.ErrEmpty}, {list(nr("job", "a|b")), api.ErrEmpty}, {list(eq("zone", ""), ne("job", "x"), nr("code", "5..")), api.ErrEmpty},
			{list(fine, api.Matcher{}), api.ErrKind}, {list(api.Matcher{Kind: 5, Name: "job", Value: "a"}), api.ErrKind}, {list(api.Matcher{Kind: math.MinInt, Name: "1", Value: "\xff"}, fine), api.ErrKind},
			{list(fine, eq("", "a")), api.ErrName}, {list(ne("1", "a"), fine), api.ErrName}, {list(fine, re("job", "\xff")), api.ErrValue}, {list(eq("job", strings.Repeat("v", 129))), api.ErrValue},
			{list(fine, re("job", "(")), api.ErrForm}, {list(nr("job", "a**"), fine), api.ErrForm}, {list(re("job", strings.Repeat("(", 21)), fine), api.ErrDeep},
			{slices.Repeat(list(fine), 17), api.ErrLong}, {slices.Repeat(list(api.Matcher{}), 17), api.ErrLong}, {list(re("job", "("), eq("", "")), api.ErrForm},
		} {
			if l, err := x.Select(c.m); len(l) != 0 || err != c.want {
				t.Errorf("Select of %s: %v, %d, want %d", show(c.m), l, err, c.want)
			}
		}
		mustBe(t, x, p)
	}
}

func TestSelectOfEachAndOfPairs(t *testing.T) {
	d := sample.Draws(23)
	p := somePlain(t, d)
	x := indexOf(t, p)
	some := someAsked()
	told := map[int]int{}
	for _, m := range some {
		mustBe(t, x, p, list(m))
		for _, other := range some {
			l, err := x.Select(list(m, other))
			want, wrong := p.selected(list(m, other))
			if err != wrong || !slices.Equal(l, want) {
				t.Fatalf("Select of %s: %v, %d, want %v, %d", show(list(m, other)), l, err, want, wrong)
			}
			told[len(want)]++
		}
	}
	if len(told) < 10 {
		t.Error("what was asked tells little", told)
	}
}

func TestSelectOfMany(t *testing.T) {
	d := sample.Draws(24)
	for range 40 {
		p := somePlain(t, d)
		p = shuffled(d, p)[:d.Below(len(p))]
		mustBe(t, indexOf(t, p), p, someSelectors(d, 200)...)
	}
}

func TestNamesAndValuesOfSome(t *testing.T) {
	x := indexOf(t, shop())
	for _, c := range []struct {
		cut    uint64
		names  []string
		values map[string][]string
	}{
		{9, []string{"__name__", "code", "job"}, map[string][]string{"__name__": {"down", "up"}, "code": {"200", "404", "500"}, "job": {"a", "b", "c"}, "zone": nil, "": nil, "a": nil, "\xff": nil}},
		{4, []string{"__name__", "code", "job"}, map[string][]string{"__name__": {"up"}, "code": {"200", "404", "500"}, "job": {"a", "b"}}},
		{3, []string{"__name__", "code", "job"}, map[string][]string{"__name__": {"up"}, "code": {"200", "404", "500"}, "job": {"a", "b"}}},
		{1 << 40, []string{"__name__", "code", "job"}, map[string][]string{"__name__": {"up"}, "code": {"200", "404"}, "job": {"a"}}},
		{20, []string{"code", "job"}, map[string][]string{"__name__": nil, "code": {"404"}, "job": {"a"}}},
		{7, []string{"code", "job"}, map[string][]string{"__name__": nil, "code": {"404"}, "job": {"a"}}},
		{1<<64 - 1, []string{"job"}, map[string][]string{"code": nil, "job": {"a"}}},
		{0, nil, map[string][]string{"code": nil, "job": nil}},
	} {
		x.Cut(c.cut)
		if got := x.Names(); !slices.Equal(got, c.names) {
			t.Errorf("Names behind the cut of %d: %q, want %q", c.cut, got, c.names)
		}
		for name, want := range c.values {
			if got := x.Values(name); !slices.Equal(got, want) {
				t.Errorf("Values of %q behind the cut of %d: %q, want %q", name, c.cut, got, want)
			}
		}
	}
}

// Texts rise by their bytes.
func TestNamesAndValuesRise(t *testing.T) {
	values := []string{"\x00", " ", "10", "9", "A", "Z", "_", "a", "aa", "ab", "b", "z", "é", "\ufffd", "\U0001f600"}
	names := []string{"A", "B1", "Z", "_", "__", "a", "a0", "a_", "aa", "b"}
	d := sample.Draws(25)
	for range 20 {
		var p plain
		for i, value := range shuffled(d, values) {
			for j, name := range shuffled(d, names) {
				p = append(p, series{uint64(i*1000 + j), of(name, value)})
			}
		}
		x := indexOf(t, p)
		if got := x.Names(); !slices.Equal(got, names) {
			t.Fatalf("Names: %q", got)
		}
		for _, name := range names {
			if got := x.Values(name); !slices.Equal(got, values) {
				t.Fatalf("Values of %q: %q", name, got)
			}
		}
	}
}

// P10.4

func TestInAnyOrder(t *testing.T) {
	p := shop()[:5]
	var asked [][]api.Matcher
	for _, m := range someAsked() {
		asked = append(asked, list(m, re("job", "a|c")), list(ne("job", ""), m))
	}
	var orders func(ahead, left plain)
	count := 0
	orders = func(ahead, left plain) {
		for i := range left {
			rest := slices.Concat(left[:i], left[i+1:])
			orders(append(ahead[:len(ahead):len(ahead)], left[i]), rest)
		}
		if len(left) == 0 {
			mustBe(t, indexOf(t, ahead), p, asked...)
			count++
		}
	}
	orders(nil, p)
	if count != 120 {
		t.Error("there are other orders", count)
	}
}

func TestManyInAnyOrder(t *testing.T) {
	d := sample.Draws(26)
	p := somePlain(t, d)
	asked := someSelectors(d, 300)
	for range 20 {
		x := indexOf(t, shuffled(d, p))
		for i, s := range shuffled(d, p) { // some go and come again, with other numbers for a while
			if i%3 == 0 {
				continue
			}
			if err := x.Cut(s.ref); err != api.OK {
				t.Fatal("Cut", err)
			}
			if i%3 == 1 {
				if e, f := x.Add(77777, s.set), x.Cut(77777); e != api.OK || f != api.OK {
					t.Fatal("Add and Cut", e, f)
				}
			}
			if err := x.Add(s.ref, s.set); err != api.OK {
				t.Fatal("Add", err)
			}
		}
		mustBe(t, x, p, asked...)
	}
}

// P10.5

// kept is Select of right matchers.
func kept(t *testing.T, x *postings.Index, m []api.Matcher) []uint64 {
	t.Helper()
	l, err := x.Select(m)
	if err != api.OK {
		t.Fatalf("Select of %s: %d", show(m), err)
	}
	return l
}

func TestAMatcherAndItsOpposite(t *testing.T) {
	d := sample.Draws(27)
	x := indexOf(t, somePlain(t, d))
	turns := []int{api.MtEq: api.MtNe, api.MtNe: api.MtEq, api.MtRe: api.MtNr, api.MtNr: api.MtRe}
	asked, parted := 0, 0
	for _, others := range someSelectors(d, 300) {
		if match.Right(others) != api.OK {
			continue
		}
		asked++
		all := kept(t, x, others)
		for _, m := range someAsked() {
			opposite := m
			opposite.Kind = turns[m.Kind]
			one := kept(t, x, append(slices.Clone(others), m))
			other := kept(t, x, append(list(opposite), others...))
			both := slices.Concat(one, other)
			slices.Sort(both)
			if !slices.Equal(both, all) {
				t.Fatalf("%s beside %s: %v and %v, want %v", show(list(m)), show(others), one, other, all)
			}
			if len(one) > 0 && len(other) > 0 {
				parted++
			}
		}
	}
	if asked < 100 || parted < 1000 {
		t.Error("what was asked tells little", asked, parted)
	}
}

// P10.6

func TestMoreMatchersSelectNoMore(t *testing.T) {
	d := sample.Draws(28)
	x := indexOf(t, somePlain(t, d))
	var lists [][]api.Matcher
	for _, l := range someSelectors(d, 150) {
		if match.Right(l) == api.OK {
			lists = append(lists, l)
		}
	}
	less := 0
	for _, a := range lists {
		for _, b := range lists {
			one, other := kept(t, x, a), kept(t, x, b)
			var want []uint64
			for _, ref := range one {
				if slices.Contains(other, ref) {
					want = append(want, ref)
				}
			}
			got := kept(t, x, slices.Concat(a, b))
			if !slices.Equal(got, want) || !slices.Equal(kept(t, x, slices.Concat(b, a)), want) || !slices.Equal(postings.And(one, other), want) {
				t.Fatalf("Select of %s and %s: %v, want %v", show(a), show(b), got, want)
			}
			if len(got) > 0 && len(got) < len(one) && len(got) < len(other) {
				less++
			}
		}
	}
	if len(lists) < 60 || less < 100 {
		t.Error("what was asked tells little", len(lists), less)
	}
}
