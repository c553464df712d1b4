package head_test

import (
	"math"
	"slices"
	"testing"

	"manometer/api"
	"manometer/labels"
	"manometer/sample"
)

// P14.4

func TestQueriesOfSome(t *testing.T) {
	a, b, up := of("a", "x"), of("a", "y", "b", "x"), of("__name__", "up", "a", "z")
	p := plain{
		ser(1, b, pt(-5, 1, 9), pt(5, 2, 3), pt(6, 3, 1)),
		ser(2, a, pt(math.MinInt64, 1, 1), pt(0, 2, math.MaxUint64), pt(math.MaxInt64, 3, high)),
		ser(3, nil, pt(5, 9, 1)),
		ser(4, up, pt(5, 4, 1)),
		ser(5, of("a", "none")),
	}
	h := headOf(t, p)
	every := one(api.MtNe, "a", "")
	for _, c := range []struct {
		m      []api.Matcher
		lo, hi int64
		upto   uint64
		want   []api.Series
	}{
		{every, math.MinInt64, math.MaxInt64, math.MaxUint64, []api.Series{ser(0, up, p[3].Points...), ser(0, a, p[1].Points...), ser(0, b, p[0].Points...)}},
		{every, 5, 5, 3, []api.Series{ser(0, up, pt(5, 4, 1)), ser(0, b, pt(5, 2, 3))}},
		{every, 5, 5, 2, []api.Series{ser(0, up, pt(5, 4, 1))}},
		{every, 5, 6, 0, nil}, {every, 6, 5, math.MaxUint64, nil}, {every, 7, 8, math.MaxUint64, nil}, {every, math.MaxInt64, math.MinInt64, math.MaxUint64, nil},
		{every, -5, 4, high, []api.Series{ser(0, b, pt(-5, 1, 9))}},
		{every, -5, -5, 8, nil},
		{every, math.MaxInt64, math.MaxInt64, high, []api.Series{ser(0, a, pt(math.MaxInt64, 3, high))}},
		{every, math.MaxInt64, math.MaxInt64, high - 1, nil},
		{every, math.MinInt64, math.MinInt64, 1, []api.Series{ser(0, a, pt(math.MinInt64, 1, 1))}},
		{every, math.MinInt64, -1, 1, []api.Series{ser(0, a, pt(math.MinInt64, 1, 1))}},
		{every, 0, 0, math.MaxUint64, []api.Series{ser(0, a, pt(0, 2, math.MaxUint64))}},
		{one(api.MtRe, "a", "x|y"), 5, math.MaxInt64, high, []api.Series{ser(0, a, pt(math.MaxInt64, 3, high)), ser(0, b, pt(5, 2, 3), pt(6, 3, 1))}},
		{one(api.MtEq, "a", "none"), math.MinInt64, math.MaxInt64, math.MaxUint64, nil},
		{one(api.MtEq, "c", "x"), math.MinInt64, math.MaxInt64, math.MaxUint64, nil},
		{one(api.MtEq, "__name__", "up"), 5, 5, 1, []api.Series{ser(0, up, pt(5, 4, 1))}},
	} {
		got, err := h.Query(c.m, c.lo, c.hi, c.upto)
		if err != api.OK || !slices.EqualFunc(got, c.want, sameSeries) {
			t.Errorf("Query of %v from %d to %d up to %d: %v, %d, want %v", c.m, c.lo, c.hi, c.upto, got, err, c.want)
		}
		mustQuery(t, h, p, c.m, c.lo, c.hi, c.upto)
	}
}

func TestWrongQueries(t *testing.T) {
	p := plain{ser(1, of("a", "x"), pt(5, 7, 1))}
	h := headOf(t, p)
	good, bare := one(api.MtEq, "a", "x"), one(api.MtEq, "a", "")
	for want, l := range map[api.Errno][][]api.Matcher{
		api.ErrEmpty: {nil, {}, bare, one(api.MtNe, "a", "x"), one(api.MtRe, "a", "x|"), one(api.MtNr, "a", ".+")},
		api.ErrLong:  {slices.Repeat(good, 17), slices.Repeat(one(9, "", ""), 17)},
		api.ErrKind:  {one(0, "a", "x"), one(5, "a", "x"), append(one(-1, "1", "x"), good...)},
		api.ErrName:  {one(api.MtEq, "1", "x"), append(slices.Clone(good), one(api.MtNe, "", "\xff")...)},
		api.ErrValue: {one(api.MtEq, "a", "\xff"), append(slices.Clone(bare), one(api.MtRe, "a", "\xff")...)},
		api.ErrForm:  {one(api.MtRe, "a", "("), append(slices.Clone(good), one(api.MtNr, "a", "[")...)},
	} {
		for _, m := range l {
			if got, err := h.Query(m, 0, 9, 9); got != nil || err != want {
				t.Errorf("Query of %v: %v, %d, want %d", m, got, err, want)
			}
			mustQuery(t, h, p, m, 9, 0, 0) // also where no point is asked for
		}
	}
}

func TestDrawnQueries(t *testing.T) {
	d := sample.Draws(45)
	told := 0
	for range 400 {
		p, _ := plainOf(drawnSeries(d))
		h := headOf(t, p)
		for range 3 {
			mustWrite(t, h, &p, pick(d, seqs), drawnPosts(d, 9))
			for _, m := range asked() {
				told += mustQuery(t, h, p, m, drawnTime(d), drawnTime(d), pick(d, seqs))
			}
		}
		mustAnswer(t, h, p)
	}
	if told < 1000 {
		t.Error("what was asked tells little", told)
	}
}

func TestQueryOfManySeries(t *testing.T) {
	d := sample.Draws(46)
	p := plain(shuffled(d, wide(api.MaxSeries)))
	for i := range p {
		p[i].Ref = uint32(i + 1)
	}
	h := headOf(t, p)
	all, err := h.Query(one(api.MtEq, "a", "x"), math.MinInt64, math.MaxInt64, 1)
	if err != api.OK || len(all) != api.MaxSeries || !slices.IsSortedFunc(all, byLabels) || slices.ContainsFunc(all, func(s api.Series) bool { return s.Ref != 0 }) {
		t.Error("Query", len(all), err)
	}
	slices.SortFunc(p, byLabels)
	if !slices.EqualFunc(all, p, func(a, b api.Series) bool {
		return labels.Same(a.Labels, b.Labels) && slices.Equal(a.Points, b.Points)
	}) {
		t.Error("the series are others")
	}
}
