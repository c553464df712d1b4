package points_test

import (
	"math"
	"slices"
	"testing"

	"manometer/api"
	"manometer/points"
	"manometer/sample"
)

func TestLimitsKindsAndErrors(t *testing.T) {
	if api.MaxPoints != 65536 {
		t.Error("MaxPoints", api.MaxPoints)
	}
	if api.OK != 0 || api.ErrArg != 1 || api.ErrFull != 5 {
		t.Error(api.OK, api.ErrArg, api.ErrFull)
	}
	for i, kind := range []int{api.PtNone, api.PtNew, api.PtSame, api.PtWon, api.PtClash} {
		if kind != i {
			t.Error(kind, i)
		}
	}
}

// P9.1

func TestRightOfSome(t *testing.T) {
	for _, c := range []struct {
		l    []api.Point
		want bool
	}{
		{nil, true},
		{[]api.Point{}, true},
		{list(pt(0, 0, 1)), true},
		{list(pt(math.MinInt64, math.MaxUint64, math.MaxUint64)), true},
		{list(pt(math.MaxInt64, api.Stale, high)), true},
		{list(pt(math.MinInt64, 1, 9), pt(-1, 1, 8), pt(0, 1, 8), pt(1, 0, 1), pt(math.MaxInt64, 5, 2)), true},
		{list(pt(math.MinInt64, 1, 1), pt(math.MaxInt64, 1, 1)), true},
		{list(pt(-1, 1, 1), pt(0, 1, 1)), true},

		// a Seq of 0
		{list(pt(0, 0, 0)), false},
		{list(pt(5, 1, 0)), false},
		{list(pt(5, 1, 0), pt(6, 1, 1), pt(7, 1, 1)), false},
		{list(pt(5, 1, 1), pt(6, 1, 0), pt(7, 1, 1)), false},
		{list(pt(5, 1, 1), pt(6, 1, 1), pt(7, 1, 0)), false},

		// one time twice
		{list(pt(5, 1, 1), pt(5, 1, 1)), false},
		{list(pt(5, 1, 1), pt(5, 2, 2)), false},
		{list(pt(5, 1, 1), pt(5, 2, 2), pt(6, 1, 1)), false},
		{list(pt(4, 1, 1), pt(5, 1, 1), pt(5, 2, 2)), false},
		{list(pt(math.MinInt64, 1, 1), pt(math.MinInt64, 1, 2)), false},
		{list(pt(math.MaxInt64, 1, 1), pt(math.MaxInt64, 1, 2)), false},

		// falling times
		{list(pt(6, 1, 1), pt(5, 1, 1)), false},
		{list(pt(0, 1, 1), pt(-1, 1, 1)), false},
		{list(pt(math.MaxInt64, 1, 1), pt(math.MinInt64, 1, 1)), false},
		{list(pt(6, 1, 1), pt(5, 1, 1), pt(7, 1, 1)), false},
		{list(pt(6, 1, 1), pt(7, 1, 1), pt(5, 1, 1)), false},
		{list(pt(6, 1, 1), pt(7, 1, 1), pt(6, 1, 1)), false},
	} {
		if got := points.Right(c.l); got != c.want {
			t.Errorf("Right of %v: %v", c.l, got)
		}
	}
	for _, l := range wrongLists() {
		if points.Right(l) {
			t.Errorf("Right of %v", l)
		}
	}
	for _, l := range fewLists(-1, 0, 4) {
		if !points.Right(l) {
			t.Errorf("not Right of %v", l)
		}
	}
}

func TestRightOfMany(t *testing.T) {
	full := many(api.MaxPoints, -70000)
	if !points.Right(full) || !points.Right(full[1:]) {
		t.Error("not Right of at most MaxPoints")
	}
	if points.Right(many(api.MaxPoints+1, -70000)) || points.Right(many(2*api.MaxPoints, 0)) {
		t.Error("Right of more than MaxPoints")
	}
	for _, at := range []int{0, 1, 1000, api.MaxPoints / 2, api.MaxPoints - 2, api.MaxPoints - 1} {
		l := slices.Clone(full)
		l[at].Seq = 0
		if points.Right(l) {
			t.Error("Right of a Seq of 0 at", at)
		}
		if at > 0 {
			l = slices.Clone(full)
			l[at].T = l[at-1].T
			if points.Right(l) {
				t.Error("Right of one time twice at", at)
			}
		}
	}
}

func TestAhead(t *testing.T) {
	for _, c := range []struct {
		p, q api.Point
		want bool
	}{
		{pt(5, 1, 1), pt(5, 1, 2), true},
		{pt(5, 1, 2), pt(5, 1, 1), false},
		{pt(5, 9, 1), pt(5, 1, 2), true}, // the Seq ahead of the V
		{pt(5, 1, 2), pt(5, 9, 1), false},
		{pt(5, 1, 2), pt(5, 2, 2), true},
		{pt(5, 2, 2), pt(5, 1, 2), false},
		{pt(5, 2, 2), pt(5, 2, 2), false},
		{pt(5, 1, math.MaxInt64), pt(5, 1, high), true}, // numbers without a sign
		{pt(5, 1, high), pt(5, 1, math.MaxInt64), false},
		{pt(5, 1, 1), pt(5, 1, math.MaxUint64), true},
		{pt(5, math.MaxInt64, 1), pt(5, high, 1), true}, // so values too, of which 1 << 63 is -0
		{pt(5, high, 1), pt(5, 0, 1), false},
		{pt(5, 0, 1), pt(5, high, 1), true},
		{pt(5, api.Stale, 1), pt(5, api.NaN, 1), true},
		{pt(5, api.NaN, 1), pt(5, api.NaN, 1), false},
		{api.Point{}, api.Point{}, false},
		{pt(5, 1, 0), pt(5, 1, 1), true},
		{pt(9, 1, 1), pt(5, 1, 2), true}, // whichever times they have
		{pt(5, 1, 2), pt(9, 1, 1), false},
		{pt(5, 1, 1), pt(9, 1, 1), false},
		{pt(9, 1, 1), pt(5, 1, 1), false},
	} {
		if got := points.Ahead(c.p, c.q); got != c.want {
			t.Errorf("Ahead of %v and %v: %v", c.p, c.q, got)
		}
	}
}

// Of two unlike points of one time just one counts, and of three the one that counts ahead of one that counts ahead of the third.
func TestAheadIsAnOrder(t *testing.T) {
	l := append(few(5), some(sample.Draws(1), 30)...)
	for i := range l {
		l[i].T = 5
	}
	for _, p := range l {
		for _, q := range l {
			if points.Ahead(p, q) != (plainOrder(p, q) < 0) {
				t.Fatal(p, q, points.Ahead(p, q))
			}
			if p != q && points.Ahead(p, q) == points.Ahead(q, p) {
				t.Fatal(p, q)
			}
			for _, r := range l {
				if points.Ahead(p, q) && points.Ahead(q, r) && !points.Ahead(p, r) {
					t.Fatal(p, q, r)
				}
			}
		}
	}
}

// plainFind is Find, word by word.
func plainFind(l []api.Point, at int64) (int, bool) {
	for i, p := range l {
		if p.T >= at {
			return i, p.T == at
		}
	}
	return len(l), false
}

func mustFind(t *testing.T, l []api.Point, at int64, place int, is bool) {
	t.Helper()
	if i, found := points.Find(l, at); i != place || found != is {
		t.Fatalf("Find of %d, of %d points %v: %d %v, want %d %v", at, len(l), short(l), i, found, place, is)
	}
}

func TestFindOfSome(t *testing.T) {
	l := list(pt(-4, 1, 1), pt(2, 1, 1), pt(3, 1, 1), pt(9, 1, 1))
	for _, c := range []struct {
		at    int64
		place int
		is    bool
	}{
		{math.MinInt64, 0, false}, {-5, 0, false}, {-4, 0, true}, {-3, 1, false}, {0, 1, false}, {1, 1, false}, {2, 1, true}, {3, 2, true}, {4, 3, false}, {8, 3, false}, {9, 3, true}, {10, 4, false}, {math.MaxInt64, 4, false},
	} {
		mustFind(t, l, c.at, c.place, c.is)
	}
	for _, at := range []int64{math.MinInt64, 0, math.MaxInt64} {
		mustFind(t, nil, at, 0, false)
		mustFind(t, []api.Point{}, at, 0, false)
	}
	ends := list(pt(math.MinInt64, 1, 1), pt(math.MaxInt64, 1, 1))
	mustFind(t, ends, math.MinInt64, 0, true)
	mustFind(t, ends, math.MinInt64+1, 1, false)
	mustFind(t, ends, math.MaxInt64-1, 1, false)
	mustFind(t, ends, math.MaxInt64, 1, true)
}

func TestFindOfMany(t *testing.T) {
	for count := range 40 {
		l := many(count, -21)
		for at := int64(-23); at <= 60; at++ {
			place, is := plainFind(l, at)
			mustFind(t, l, at, place, is)
		}
	}
	full := many(api.MaxPoints, -70000)
	for i := range full {
		mustFind(t, full, full[i].T-1, i, false)
		mustFind(t, full, full[i].T, i, true)
	}
	mustFind(t, full, math.MinInt64, 0, false)
	mustFind(t, full, full[len(full)-1].T+1, api.MaxPoints, false)
}

// What is told of lists that are not right is free.
func TestFindEndsOfAnyList(t *testing.T) {
	d := sample.Draws(2)
	for range 2000 {
		l := some(d, d.Below(12))
		for _, at := range times {
			points.Find(l, at)
		}
	}
	points.Find(many(2*api.MaxPoints, 0), 77)
}
