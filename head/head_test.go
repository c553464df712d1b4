package head_test

import (
	"slices"
	"testing"

	"manometer/api"
	"manometer/head"
	"manometer/sample"
)

// P14.1

func ser(ref uint32, l api.Labels, p ...api.Point) api.Series {
	return api.Series{Ref: ref, Labels: l, Points: p}
}

func TestNewHasNoSeries(t *testing.T) {
	mustAnswer(t, head.New(), nil)
	if a, b := head.New(), head.New(); a == b {
		t.Error("two heads are one")
	}
}

func TestOfSome(t *testing.T) {
	a, b, c := of("a", "x"), of("b", "x"), of("a", "x", "b", "x")
	for _, l := range [][]api.Series{
		nil,
		{},
		{ser(1, a)},
		{ser(1, nil)},
		{ser(1<<32-1, a, pt(5, 7, 1))},
		{ser(1, b, pt(5, 7, 1)), ser(2, a, pt(5, 7, 1), pt(6, 0, 9)), ser(3, c)},
		{ser(7, c), ser(70, nil, pt(-5, 0, high)), ser(1<<31, a), ser(1<<32-1, b, pt(0, 0, 1))},
	} {
		mustAnswer(t, headOf(t, l), l)
		mustAnswer(t, headOf(t, l).Clone(), l)
	}
	h := headOf(t, []api.Series{ser(3, b, pt(5, 7, 1), pt(6, 7, 2)), ser(9, a), ser(11, nil, pt(1, 1, 1))})
	if n, m := h.Count(); n != 3 || m != 3 {
		t.Error("Count", n, m)
	}
	if l, is := h.Get(b); !is || !slices.Equal(l, list(pt(5, 7, 1), pt(6, 7, 2))) {
		t.Error("Get", l, is)
	}
	if l, is := h.Get(a); !is || len(l) > 0 {
		t.Error("Get of a series without points", l, is)
	}
	if l, is := h.Get(nil); !is || len(l) != 1 {
		t.Error("Get of no labels", l, is)
	}
	if l, is := h.Get(c); is || l != nil {
		t.Error("Get of what is not there", l, is)
	}
}

// wrongSeries are lists that Of refuses, and why.
func wrongSeries() map[api.Errno][][]api.Series {
	a, b := of("a", "x"), of("b", "x")
	bad, long := of("a", ""), make(api.Labels, 17)
	falling, zero := list(pt(5, 7, 1), pt(4, 7, 1)), list(pt(5, 7, 0))
	return map[api.Errno][][]api.Series{
		api.ErrArg: {
			{ser(0, a)}, {ser(0, bad)}, {ser(0, a, zero...)}, {ser(0, a), ser(0, a)},
			{ser(1, a), ser(1, b)}, {ser(1, a), ser(1, bad)}, {ser(1, a), ser(1, a)}, {ser(2, a), ser(1, b)}, {ser(1<<32-1, a), ser(0, b)}, {ser(1<<31, a), ser(5, b)},
			{ser(1, a), ser(5, b), ser(3, nil)},
			{ser(1, a, falling...)}, {ser(1, a, zero...)}, {ser(1, a, pt(5, 7, 1), pt(5, 7, 2))}, {ser(1, a), ser(2, b, zero...)}, {ser(1, a, many(api.MaxPoints+1)...)},
			{ser(1, a, zero...), ser(2, bad)}, {ser(1, a), ser(1, b), ser(3, bad)},
			{ser(1, a), ser(2, a), ser(2, b)}, {ser(1, a), ser(2, a, zero...)}, {ser(1, a), ser(2, a), ser(3, b, falling...)},
		},
		api.ErrLong:  {{ser(1, long)}, {ser(1, a), ser(2, long, zero...)}, {ser(1, long), ser(1, a)}},
		api.ErrName:  {{ser(1, of("1", "x"))}, {ser(1, a), ser(2, of("", ""))}, {ser(1, of("é", "x")), ser(0, a)}},
		api.ErrValue: {{ser(1, bad)}, {ser(1, bad, zero...)}, {ser(1, bad), ser(0, a)}, {ser(1, of("a", "\xff"))}, {ser(1, a), ser(2, a), ser(3, bad)}},
		api.ErrOrder: {{ser(1, of("b", "x", "a", "x"))}, {ser(1, of("a", "x", "a", "x"))}, {ser(1, a), ser(2, of("a", "x", "a", "y")), ser(1, b)}},
		api.ErrTwice: {{ser(1, a), ser(2, a)}, {ser(1, a), ser(2, b), ser(9, a, pt(5, 7, 1))}, {ser(1, nil), ser(2, a), ser(3, api.Labels{})}, {ser(1, a, pt(5, 7, 1)), ser(2, a, pt(5, 7, 1))}},
	}
}

func TestOfWrongSeries(t *testing.T) {
	for want, lists := range wrongSeries() {
		for _, l := range lists {
			if h, err := head.Of(l); h != nil || err != want {
				t.Errorf("Of %v: %v, %d, want %d", l[:min(len(l), 3)], h, err, want)
			}
			if _, err := plainOf(l); err != want {
				t.Errorf("the plain head of %v: %d, want %d", l[:min(len(l), 3)], err, want)
			}
		}
	}
}

func TestOfMany(t *testing.T) {
	l := wide(api.MaxSeries)
	mustHave(t, headOf(t, l), l)
	last := api.Series{Ref: 1 << 20, Labels: of("last", "x")}
	for _, wrong := range [][]api.Series{append(l[:len(l):len(l)], last), append(l[:len(l):len(l)], l[0]), make([]api.Series, api.MaxSeries+1), append(slices.Clone(l), l...)} {
		if h, err := head.Of(wrong); h != nil || err != api.ErrLong {
			t.Errorf("Of %d series: %v, %d", len(wrong), h, err)
		}
	}
	twice := slices.Clone(l)
	twice[api.MaxSeries-1].Labels = l[0].Labels
	if h, err := head.Of(twice); h != nil || err != api.ErrTwice {
		t.Error("Of labels that are there twice", h, err)
	}
	full := []api.Series{ser(1, of("a", "x"), many(api.MaxPoints)...), ser(2, of("b", "x"), many(api.MaxPoints)...)}
	mustHave(t, headOf(t, full), full)
}

func TestOfDrawnSeries(t *testing.T) {
	d := sample.Draws(41)
	told := map[api.Errno]int{}
	for range 3000 {
		l := drawnSeries(d)
		for i := range l { // most lists stay right
			switch d.Below(25) {
			case 0:
				l[i].Ref = uint32(d.Below(9))
			case 1:
				l[i].Labels = pick(d, sets())
			case 2:
				l[i].Labels = of("a", "", "1", "")
			case 3:
				l[i].Points = append(l[i].Points, pt(0, 0, uint64(d.Below(2))))
			}
		}
		want, wrong := plainOf(l)
		h, err := head.Of(l)
		if err != wrong || h == nil && err == api.OK || h != nil && err != api.OK {
			t.Fatalf("Of %v: %v, %d, want %d", l, h, err, wrong)
		}
		told[err]++
		if err == api.OK {
			mustAnswer(t, h, want)
		}
	}
	for _, err := range []api.Errno{api.OK, api.ErrArg, api.ErrValue, api.ErrTwice} {
		if told[err] < 50 {
			t.Error("few lists were", err, told)
		}
	}
}

func TestCloneIsAnother(t *testing.T) {
	d := sample.Draws(42)
	for range 300 {
		l, _ := plainOf(drawnSeries(d))
		h := headOf(t, l)
		c := h.Clone()
		if c == h {
			t.Fatal("a clone is the head itself")
		}
		twin := l.clone()
		for seq := range uint64(6) {
			mustWrite(t, h, &l, seq+1, drawnPosts(d, 8))
			mustHave(t, c, twin)
			mustWrite(t, c, &twin, seq+1, drawnPosts(d, 8))
			mustHave(t, h, l)
		}
		mustAnswer(t, h, l)
		mustAnswer(t, c, twin)
	}
}

// Of what no call made.
func TestWhatNoCallMade(t *testing.T) {
	for _, h := range []*head.Head{nil, {}, new(head.Head)} {
		if l := h.All(); l != nil {
			t.Error("All", l)
		}
		if n, m := h.Count(); n != 0 || m != 0 {
			t.Error("Count", n, m)
		}
		for _, set := range append(sets(), of("a", "")) {
			if l, is := h.Get(set); l != nil || is {
				t.Error("Get", l, is)
			}
		}
		if c := h.Clone(); c != nil {
			t.Error("Clone", c)
		}
		for _, r := range []api.Record{{}, begun(1, of("a", "x")), came(entry(1, 5, 7, 1)), begun(0, of("a", "")), came()} {
			if err := h.Record(r); err != api.ErrMade {
				t.Error("Record", err)
			}
		}
		for _, seq := range seqs[:2] {
			for _, l := range [][]api.Post{nil, {post(0, of("a", "x"), 5, 7)}, make([]api.Post, 17), {post(0, of("a", ""), 5, 7)}} {
				for _, seq := range []uint64{0, seq} {
					if r, m, err := h.Plan(seq, l); r != nil || m != nil || err != api.ErrMade {
						t.Error("Plan", r, m, err)
					}
				}
			}
		}
		for _, m := range asked() {
			if l, err := h.Query(m, 0, 9, 9); l != nil || err != api.ErrMade {
				t.Error("Query", l, err)
			}
		}
	}
}
