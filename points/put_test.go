package points_test

import (
	"math"
	"slices"
	"testing"

	"manometer/api"
	"manometer/points"
	"manometer/sample"
)

// P9.2

func TestPutOfSome(t *testing.T) {
	l := list(pt(-4, 7, 3), pt(5, 7, 2), pt(8, 7, 3))
	for _, c := range []struct {
		p    api.Point
		want []api.Point
		kind int
	}{
		// there is no point of its time
		{pt(math.MinInt64, 1, 1), list(pt(math.MinInt64, 1, 1), l[0], l[1], l[2]), api.PtNew},
		{pt(-5, 7, 3), list(pt(-5, 7, 3), l[0], l[1], l[2]), api.PtNew},
		{pt(-3, 7, math.MaxUint64), list(l[0], pt(-3, 7, math.MaxUint64), l[1], l[2]), api.PtNew},
		{pt(4, 0, 9), list(l[0], pt(4, 0, 9), l[1], l[2]), api.PtNew},
		{pt(7, api.Stale, 9), list(l[0], l[1], pt(7, api.Stale, 9), l[2]), api.PtNew},
		{pt(9, 7, 3), list(l[0], l[1], l[2], pt(9, 7, 3)), api.PtNew},
		{pt(math.MaxInt64, 1, 1), list(l[0], l[1], l[2], pt(math.MaxInt64, 1, 1)), api.PtNew},

		// there is one of its value
		{pt(5, 7, 2), l, api.PtSame},
		{pt(5, 7, 3), l, api.PtSame},
		{pt(5, 7, math.MaxUint64), l, api.PtSame},
		{pt(5, 7, 1), list(l[0], pt(5, 7, 1), l[2]), api.PtSame},
		{pt(-4, 7, 2), list(pt(-4, 7, 2), l[1], l[2]), api.PtSame},
		{pt(8, 7, 1), list(l[0], l[1], pt(8, 7, 1)), api.PtSame},

		// there is one of another value, and it goes
		{pt(5, 8, 1), list(l[0], pt(5, 8, 1), l[2]), api.PtWon},
		{pt(5, 6, 1), list(l[0], pt(5, 6, 1), l[2]), api.PtWon},
		{pt(5, 6, 2), list(l[0], pt(5, 6, 2), l[2]), api.PtWon},
		{pt(-4, 9, 2), list(pt(-4, 9, 2), l[1], l[2]), api.PtWon},
		{pt(8, 0, 3), list(l[0], l[1], pt(8, 0, 3)), api.PtWon},

		// there is one of another value, and it stays
		{pt(5, 8, 2), l, api.PtClash},
		{pt(5, 6, 3), l, api.PtClash},
		{pt(5, 8, 3), l, api.PtClash},
		{pt(5, high|7, 2), l, api.PtClash},
		{pt(5, 0, high|2), l, api.PtClash},
		{pt(-4, 8, 3), l, api.PtClash},
		{pt(8, 0, 4), l, api.PtClash},
	} {
		mustPut(t, l, c.p, c.want, c.kind, api.OK)
	}
}

func TestPutExamples(t *testing.T) {
	const x, y = 3, 4
	mustPut(t, list(pt(5, y, 1)), pt(5, x, 2), list(pt(5, y, 1)), api.PtClash, api.OK)
	mustPut(t, list(pt(5, y, 2)), pt(5, x, 1), list(pt(5, x, 1)), api.PtWon, api.OK)
}

func TestPutOfTheFirst(t *testing.T) {
	for _, p := range append(few(math.MinInt64, 0, math.MaxInt64), pt(0, 0, 1)) {
		mustPut(t, nil, p, list(p), api.PtNew, api.OK)
		mustPut(t, []api.Point{}, p, list(p), api.PtNew, api.OK)
	}
}

// Values are held against each other by their bits: +0 and -0, and what is no number.
func TestPutOfValuesByTheirBits(t *testing.T) {
	for _, c := range []struct {
		old, v uint64
		kind   int
	}{
		{0, high, api.PtClash}, {high, 0, api.PtWon}, {high, high, api.PtSame},
		{api.NaN, api.NaN, api.PtSame}, {api.NaN, api.Stale, api.PtWon}, {api.Stale, api.NaN, api.PtClash}, {api.Stale, api.Stale, api.PtSame},
		{math.Float64bits(-1), math.Float64bits(1), api.PtWon}, {math.Float64bits(1), math.Float64bits(-1), api.PtClash},
	} {
		mustPut(t, list(pt(5, c.old, 2)), pt(5, c.v, 2), list(pt(5, min(c.old, c.v), 2)), c.kind, api.OK)
	}
}

// No list changes by a point whose Seq is 0, and ErrArg comes ahead of ErrFull.
func TestPutOfASeqOfZero(t *testing.T) {
	lists := append(fewLists(-1, 3), many(api.MaxPoints-1, 0), many(api.MaxPoints, 0), many(api.MaxPoints+1, 0))
	for _, l := range append(lists, wrongLists()...) {
		for _, p := range list(pt(0, 0, 0), pt(3, 7, 0), pt(-1, 1, 0), pt(math.MaxInt64, high, 0)) {
			mustPut(t, l, p, l, api.PtNone, api.ErrArg)
		}
	}
}

func TestPutOfWrongLists(t *testing.T) {
	lists := append(wrongLists(), many(api.MaxPoints+1, 0), many(2*api.MaxPoints, 0))
	lists = append(lists, append(many(api.MaxPoints-1, 0), pt(0, 0, 1)), append(many(api.MaxPoints-1, 0), pt(math.MaxInt64, 0, 0)))
	for _, l := range lists {
		for _, p := range list(pt(-9, 5, 1), pt(-1, 5, 1), pt(2, 5, 1), pt(2, 9, 1), pt(2, 9, 9), pt(9, 5, 1), pt(math.MaxInt64, 5, 1)) {
			mustPut(t, l, p, l, api.PtNone, api.ErrArg)
		}
	}
}

func TestPutOfFullLists(t *testing.T) {
	full := many(api.MaxPoints, -70000)
	for _, at := range []int64{math.MinInt64, -70001, -69999, 1, full[api.MaxPoints-1].T + 1, math.MaxInt64} {
		mustPut(t, full, pt(at, 1, 1), full, api.PtNone, api.ErrFull)
	}
	for _, i := range []int{0, 1, 30000, api.MaxPoints - 1} { // where a point of its time stands there is room
		q := full[i]
		won := slices.Clone(full)
		won[i] = pt(q.T, q.V+1, q.Seq-1)
		mustPut(t, full, won[i], won, api.PtWon, api.OK)
		won[i] = pt(q.T, q.V, q.Seq-1)
		mustPut(t, full, won[i], won, api.PtSame, api.OK)
		mustPut(t, full, q, full, api.PtSame, api.OK)
		mustPut(t, full, pt(q.T, q.V, q.Seq+1), full, api.PtSame, api.OK)
		mustPut(t, full, pt(q.T, q.V+1, q.Seq), full, api.PtClash, api.OK)
		mustPut(t, slices.Delete(slices.Clone(full), i, i+1), q, full, api.PtNew, api.OK) // the last one that has room
	}
}

func TestPutOfAllFew(t *testing.T) {
	for _, l := range fewLists(math.MinInt64, 0, math.MaxInt64) {
		for _, p := range few(math.MinInt64, math.MinInt64+1, -1, 0, 1, math.MaxInt64) {
			want, kind := plainPut(l, p)
			mustPut(t, l, p, want, kind, api.OK)
		}
	}
}

// P9.5

// turns calls do with the points in each order.
func turns(l []api.Point, do func([]api.Point)) {
	var from func(int)
	from = func(at int) {
		if at == len(l) {
			do(l)
			return
		}
		for i := at; i < len(l); i++ {
			l[at], l[i] = l[i], l[at]
			from(at + 1)
			l[at], l[i] = l[i], l[at]
		}
	}
	from(0)
}

func TestPutInAnyOrder(t *testing.T) {
	d := sample.Draws(3)
	for range 60 {
		l := some(d, d.Below(7))
		want := plainMerge(l)
		turns(l, func(l []api.Point) {
			var put, single []api.Point
			for _, p := range l {
				m, _, err := points.Put(put, p)
				if err != api.OK {
					t.Fatal(p, put, err)
				}
				put = m
				single = merged(t, single, list(p))
			}
			if !slices.Equal(put, want) || !slices.Equal(single, want) {
				t.Fatalf("%v: put %v, merged %v, want %v", l, put, single, want)
			}
		})
	}
}

func TestPutOfManyInAnyOrder(t *testing.T) {
	d := sample.Draws(4)
	for range 30 {
		l := some(d, 300)
		var put []api.Point
		for i, p := range l {
			m, kind, err := points.Put(put, p)
			if want, is := plainPut(put, p); !slices.Equal(m, want) || kind != is || err != api.OK {
				t.Fatal(p, put, m, kind, err)
			}
			if put = m; !slices.Equal(put, plainMerge(l[:i+1])) {
				t.Fatal(l[:i+1], put)
			}
		}
	}
}

// P9.6

func TestPutOneAtATime(t *testing.T) {
	d := sample.Draws(5)
	for range 3000 {
		l := plainMerge(some(d, d.Below(12)))
		p := some(d, 1)[0]
		m, kind, err := points.Put(l, p)
		if err != api.OK || !points.Right(m) {
			t.Fatalf("Put of %v, of %v: %v %d", p, l, m, err)
		}
		other := func(q api.Point) bool { return q.T != p.T }
		if !slices.Equal(plainPart(m, other), plainPart(l, other)) {
			t.Fatalf("Put of %v, of %v: %v, others are not left", p, l, m)
		}
		i, is := points.Find(m, p.T)
		if !is || m[i] != p && !points.Ahead(m[i], p) {
			t.Fatalf("Put of %v, of %v: %v, where it is not", p, l, m)
		}
		if old, was := points.Find(l, p.T); was != (kind != api.PtNew) || was && m[i] != p && m[i] != l[old] {
			t.Fatalf("Put of %v, of %v: %v %d", p, l, m, kind)
		}
		again, kind, err := points.Put(m, p) // a point that came twice is told by its value
		if !slices.Equal(again, m) || err != api.OK || (kind == api.PtSame) != (m[i].V == p.V) || kind != api.PtSame && kind != api.PtClash {
			t.Fatalf("Put of %v again, of %v: %v %d %d", p, m, again, kind, err)
		}
	}
}
