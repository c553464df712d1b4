package postings_test

import (
	"slices"
	"strconv"
	"strings"
	"testing"

	"manometer/api"
	"manometer/labels"
	"manometer/postings"
	"manometer/sample"
)

func TestLimitsAndErrors(t *testing.T) {
	if api.MaxSeries != 4096 {
		t.Error("MaxSeries", api.MaxSeries)
	}
	if api.OK != 0 || api.ErrMade != 2 || api.ErrFull != 5 || api.ErrThere != 100 || api.ErrRef != 101 {
		t.Error(api.OK, api.ErrMade, api.ErrFull, api.ErrThere, api.ErrRef)
	}
}

// P10.1

func TestNewIsWithoutSeries(t *testing.T) {
	x := postings.New()
	mustBe(t, x, nil, append(someSelectors(sample.Draws(1), 200), nil)...)
	for _, ref := range someRefs() {
		if err := x.Cut(ref); err != api.ErrRef {
			t.Error("Cut", ref, err)
		}
	}
	mustBe(t, x, nil)
	y := postings.New()
	if err := y.Add(1, of("a", "x")); err != api.OK {
		t.Error("Add", err)
	}
	mustBe(t, x, nil)
}

func TestAddAndCutOfSome(t *testing.T) {
	x := postings.New()
	for _, c := range []struct {
		add  bool
		ref  uint64
		set  api.Labels
		want api.Errno
		left int
	}{
		{true, 7, of("a", "x"), api.OK, 1},
		{true, 7, of("a", "x"), api.ErrThere, 1},
		{true, 7, of("a", "y"), api.ErrThere, 1},
		{true, 8, of("a", "x"), api.ErrThere, 1},
		{true, 7, of("a", ""), api.ErrValue, 1}, // what is wrong with the labels comes first
		{true, 7, of("1", "x"), api.ErrName, 1},
		{true, 7, of("b", "x", "a", "x"), api.ErrOrder, 1},
		{true, 8, of("a", "x", "b", "x"), api.OK, 2}, // more labels than those of another one are others
		{true, 9, of("b", "x"), api.OK, 3},
		{true, 0, of("a", "0"), api.OK, 4},
		{true, 0, of("a", "1"), api.ErrThere, 4},
		{true, 1<<64 - 1, of("a", "1"), api.OK, 5},
		{true, 1<<64 - 1, of("a", "2"), api.ErrThere, 5},
		{true, 10, nil, api.OK, 6}, // a series without labels is one
		{true, 11, api.Labels{}, api.ErrThere, 6},
		{true, 10, of("a", "2"), api.ErrThere, 6},
		{false, 12, nil, api.ErrRef, 6},
		{false, 7, nil, api.OK, 5},
		{false, 7, nil, api.ErrRef, 5},
		{true, 8, of("a", "x"), api.ErrThere, 5},
		{true, 12, of("a", "x"), api.OK, 6}, // labels that are free again
		{true, 7, of("a", "3"), api.OK, 7},  // a number that is
		{false, 10, nil, api.OK, 6},
		{false, 0, nil, api.OK, 5},
		{false, 0, nil, api.ErrRef, 5},
		{true, 0, nil, api.OK, 6},
		{false, 1<<64 - 1, nil, api.OK, 5},
		{true, 1<<64 - 1, of("a", "1"), api.OK, 6},
		{true, 13, of("a", "X"), api.OK, 7}, // bytes are told apart
		{true, 14, of("A", "x"), api.OK, 8},
	} {
		var got api.Errno
		if c.add {
			got = x.Add(c.ref, c.set)
		} else {
			got = x.Cut(c.ref)
		}
		if got != c.want || x.Len() != c.left {
			t.Fatalf("%v %d %v: %d, and %d series, want %d, %d", c.add, c.ref, c.set, got, x.Len(), c.want, c.left)
		}
	}
	mustBe(t, x, plain{{8, of("a", "x", "b", "x")}, {9, of("b", "x")}, {12, of("a", "x")}, {7, of("a", "3")}, {0, nil}, {1<<64 - 1, of("a", "1")}, {13, of("a", "X")}, {14, of("A", "x")}})
}

func TestAddRefusesWrongLabels(t *testing.T) {
	for want, sets := range wrongSets() {
		for _, l := range sets {
			if right := labels.Right(l); right != want {
				t.Fatal("what is asked is not that wrong", want, right)
			}
			p := plain{{3, of("a", "x")}, {4, nil}}
			x := indexOf(t, p)
			for _, ref := range nums(0, 3, 4, 5, 1<<64-1) { // also of a number that is there
				if err := x.Add(ref, l); err != want {
					t.Errorf("Add of %d %.3v: %d, want %d", ref, l, err, want)
				}
			}
			if ref, is := x.Ref(l); ref != 0 || is {
				t.Errorf("Ref of %.3v: %d, %v", l, ref, is)
			}
			mustBe(t, x, p, list(ne("a", "")), list(re("b", ".+")))
		}
	}
}

func TestLabelsAtTheirLimits(t *testing.T) {
	var most api.Labels
	for i := range api.MaxLabels {
		most = append(most, api.Label{Name: strings.Repeat("n", api.MaxName-1) + string(rune('a'+i)), Value: strings.Repeat("v", api.MaxValue)})
	}
	other := slices.Clone(most)
	other[15].Value = other[15].Value[1:]
	p := plain{{1, most}, {2, most[:15]}, {3, other}, {4, most[1:]}}
	x := indexOf(t, p)
	for _, m := range most {
		mustBe(t, x, p, list(eq(m.Name, m.Value)), list(re(m.Name, "v+")), list(nr(m.Name, ""), ne(m.Name, m.Value)), list(eq(m.Name, ""), re(most[8].Name, ".*v")))
	}
	if err := x.Cut(3); err != api.OK {
		t.Fatal("Cut", err)
	}
	mustBe(t, x, slices.Delete(slices.Clone(p), 2, 3), list(ne(most[15].Name, "")))
}

func TestRefIsLabelByLabel(t *testing.T) {
	sets := someSets()
	for i, l := range sets {
		for j, other := range sets {
			x := indexOf(t, plain{{uint64(i) + 100, l}})
			ref, is := x.Ref(other)
			same := labels.Same(l, other)
			if is != same || is && ref != uint64(i)+100 || !is && ref != 0 {
				t.Errorf("Ref of %v beside %v: %d, %v", other, l, ref, is)
			}
			err := x.Add(uint64(j)+200, other)
			if same != (err == api.ErrThere) || !same && err != api.OK {
				t.Errorf("Add of %v beside %v: %d", other, l, err)
			}
		}
	}
}

// full are as many series as an index may have, with numbers that fall.
func full() plain {
	var p plain
	for i := range api.MaxSeries {
		p = append(p, series{uint64(9000 - 2*i), of("all", "x", "mod", strconv.Itoa(i%7), "own", strconv.Itoa(i))})
	}
	return p
}

// mustBeFull asks that an index of full has no room, and what it says of series for which it would need none.
func mustBeFull(t *testing.T, x *postings.Index, p plain) {
	t.Helper()
	more := of("own", "more")
	for _, c := range []struct {
		ref  uint64
		set  api.Labels
		want api.Errno
	}{
		{1, more, api.ErrFull}, {1, nil, api.ErrFull}, {1<<64 - 1, more, api.ErrFull},
		{9000, more, api.ErrThere}, {1, p[0].set, api.ErrThere}, {810, p[0].set, api.ErrThere}, {1, p[4095].set, api.ErrThere},
		{1, of("own", ""), api.ErrValue}, {9000, of("9", "x"), api.ErrName},
	} {
		if err := x.Add(c.ref, c.set); err != c.want || x.Len() != api.MaxSeries {
			t.Errorf("Add of %d %v: %d, %d series, want %d", c.ref, c.set, err, x.Len(), c.want)
		}
	}
}

func TestFullIsAsked(t *testing.T) {
	p := full()
	x := indexOf(t, p)
	all := p.refs()
	slices.Sort(all)
	mustSelect(t, x, list(eq("all", "x")), all)
	mustSelect(t, x, list(ne("own", "")), all)
	mustSelect(t, x, list(re("mod", "[0-6]")), all)
	mustSelect(t, x, list(eq("own", "4095")), nums(810))
	mustSelect(t, x, list(eq("all", "x"), nr("own", ".|..|...|[0-3].*")), slices.Sorted(slices.Values(p[4000:].refs())))
	if got := x.Values("own"); len(got) != api.MaxSeries || !slices.Equal(got, p.values("own")) {
		t.Error("Values", len(got))
	}
	for i, s := range p { // by numbers and by labels each one is there
		if l, is := x.Labels(s.ref); !is || !labels.Same(l, s.set) {
			t.Fatal("Labels", i, l, is)
		}
		if ref, is := x.Ref(s.set); !is || ref != s.ref {
			t.Fatal("Ref", i, ref, is)
		}
	}
}

func TestFullHasRoomBehindACut(t *testing.T) {
	p := full()
	x := indexOf(t, p)
	mustBeFull(t, x, p)
	mustBeFull(t, x.Clone(), p)
	for _, ref := range nums(9000, 810, 5000) {
		set, _ := x.Labels(ref)
		if err := x.Cut(ref); err != api.OK || x.Len() != api.MaxSeries-1 {
			t.Fatal("Cut", ref, err)
		}
		if err := x.Add(1, of("own", "more")); err != api.OK || x.Len() != api.MaxSeries {
			t.Fatal("Add", ref, err)
		}
		if err := x.Add(ref, set); err != api.ErrFull {
			t.Fatal("Add", ref, err)
		}
		if err := x.Cut(1); err != api.OK {
			t.Fatal("Cut", err)
		}
		if err := x.Add(ref, set); err != api.OK {
			t.Fatal("Add", ref, err)
		}
	}
	mustBeFull(t, x, p)
	for i, s := range p {
		if err := x.Cut(s.ref); err != api.OK || x.Len() != api.MaxSeries-1-i {
			t.Fatal("Cut", s.ref, err)
		}
	}
	mustBe(t, x, nil, list(eq("all", "x")), list(ne("own", "")))
}

// Whatever is added and cut, all calls tell what a plain list of the series tells; what is refused changes nothing.
func TestAddAndCutOfMany(t *testing.T) {
	d := sample.Draws(21)
	refs, sets := someRefs(), someSets()
	for _, l := range wrongSets() {
		sets = append(sets, l[0])
	}
	told := map[api.Errno]int{}
	for range 30 {
		x, p := postings.New(), plain(nil)
		for range 60 {
			ref, set := refs[d.Below(len(refs))], sets[d.Below(len(sets))]
			var got, want api.Errno
			if d.Below(3) == 0 {
				got, want = x.Cut(ref), p.cut(ref)
			} else {
				got, want = x.Add(ref, set), p.add(ref, set)
			}
			told[want]++
			if got != want {
				t.Fatalf("%d %v: %d, want %d", ref, set, got, want)
			}
			mustBe(t, x, p, someSelectors(d, 5)...)
			if d.Below(8) == 0 {
				mustBe(t, x.Clone(), p, someSelectors(d, 5)...)
			}
		}
	}
	for _, err := range []api.Errno{api.OK, api.ErrThere, api.ErrRef, api.ErrLong, api.ErrName, api.ErrValue, api.ErrOrder} {
		if told[err] < 20 {
			t.Error("what was asked tells little", err, told[err])
		}
	}
}

func TestCloneIsAnother(t *testing.T) {
	d := sample.Draws(22)
	p := somePlain(t, d)
	asked := someSelectors(d, 100)
	for count := range len(p) + 1 {
		was := p[:count:count]
		x := indexOf(t, was)
		c := x.Clone()
		if c == nil || c == x {
			t.Fatal("Clone is no other one")
		}
		mustBe(t, c, was, asked...)
		mine, other := plain(was), plain(was)
		for i := range 12 { // of the same labels each goes on by itself
			one := of("a", "x", "b", "more", "c", strconv.Itoa(i))
			two := of("a", "x", "b", "more", "d", strconv.Itoa(i))
			if e, f := x.Add(uint64(5000+i), one), mine.add(uint64(5000+i), one); e != f {
				t.Fatal("Add", e, f)
			}
			if e, f := c.Add(uint64(5000+i), two), other.add(uint64(5000+i), two); e != f {
				t.Fatal("Add", e, f)
			}
		}
		mustBe(t, x, mine, asked...)
		mustBe(t, c, other, asked...)
		for i, s := range was {
			if i%2 == 0 {
				if e, f := x.Cut(s.ref), mine.cut(s.ref); e != f {
					t.Fatal("Cut", e, f)
				}
			} else if e, f := c.Cut(s.ref), other.cut(s.ref); e != f {
				t.Fatal("Cut", e, f)
			}
		}
		mustBe(t, x, mine, asked...)
		mustBe(t, c, other, asked...)
		mustBe(t, c.Clone().Clone(), other, asked...)
	}
}

func TestUnmade(t *testing.T) {
	fine := list(eq("a", "x"))
	for _, x := range []*postings.Index{nil, {}, new(postings.Index)} {
		for range 2 {
			for _, l := range append(someSets(), of("", ""), of("b", "x", "a", "")) { // wrong labels, too
				if err := x.Add(1, l); err != api.ErrMade {
					t.Error("Add", l, err)
				}
				if ref, is := x.Ref(l); ref != 0 || is {
					t.Error("Ref", l, ref, is)
				}
			}
			for _, ref := range someRefs() {
				if err := x.Cut(ref); err != api.ErrMade {
					t.Error("Cut", ref, err)
				}
				if l, is := x.Labels(ref); len(l) != 0 || is {
					t.Error("Labels", ref, l, is)
				}
			}
			for _, m := range [][]api.Matcher{fine, nil, list(eq("", "x")), slices.Repeat(fine, 17)} {
				if l, err := x.Select(m); len(l) != 0 || err != api.ErrMade {
					t.Error("Select", show(m), l, err)
				}
			}
			if x.Len() != 0 || len(x.Names()) != 0 || len(x.Values("a")) != 0 || len(x.Values("")) != 0 || x.Clone() != nil {
				t.Error("has something", x.Len(), x.Names(), x.Values("a"))
			}
		}
	}
}
