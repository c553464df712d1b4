package points_test

import (
	"math"
	"math/big"
	"slices"
	"testing"

	"manometer/api"
	"manometer/points"
	"manometer/sample"
)

// P9.4

// widths are widths of windows, of which some reach from one end of the times to the other one.
var widths = []uint64{0, 1, 2, 3, 8, 12, math.MaxInt64, high, high + 1, high + 9, math.MaxUint64 - 1, math.MaxUint64}

// away is how far t is away from from, which is not above it.
func away(t, from int64) *big.Int {
	return new(big.Int).Sub(big.NewInt(t), big.NewInt(from))
}

// plainWindow is Window, word by word.
func plainWindow(l []api.Point, t int64, width uint64) []api.Point {
	return plainPart(l, func(p api.Point) bool {
		return p.T <= t && away(t, p.T).Cmp(new(big.Int).SetUint64(width)) < 0
	})
}

func mustBe(t *testing.T, got, want []api.Point, call string, asked ...any) {
	t.Helper()
	if !slices.Equal(got, want) {
		t.Fatalf("%s of %v: %v, want %v", call, asked, got, want)
	}
}

func TestRangeOfSome(t *testing.T) {
	l := list(pt(math.MinInt64, 1, 1), pt(3, 1, 9), pt(5, 2, 8), pt(8, 3, 7), pt(math.MaxInt64, 1, 1))
	for _, c := range []struct {
		lo, hi   int64
		from, to int
	}{
		{math.MinInt64, math.MaxInt64, 0, 5}, {math.MinInt64, math.MinInt64, 0, 1}, {math.MaxInt64, math.MaxInt64, 4, 5}, {math.MinInt64 + 1, math.MaxInt64 - 1, 1, 4},
		{3, 8, 1, 4}, {4, 8, 2, 4}, {3, 7, 1, 3}, {2, 9, 1, 4}, {5, 5, 2, 3}, {4, 7, 2, 3}, {6, 7, 0, 0}, {6, 6, 0, 0},
		{8, 3, 0, 0}, {5, 4, 0, 0}, {6, 5, 0, 0}, {math.MaxInt64, math.MinInt64, 0, 0},
	} {
		mustBe(t, points.Range(l, c.lo, c.hi), l[c.from:c.to], "Range", c.lo, c.hi)
	}
}

func TestUptoOfSome(t *testing.T) {
	l := list(pt(3, 1, 9), pt(5, 2, 1), pt(8, 3, high), pt(9, 3, 9), pt(10, 3, math.MaxUint64))
	for _, c := range []struct {
		seq  uint64
		want []api.Point
	}{
		{0, nil}, {1, l[1:2]}, {8, l[1:2]}, {9, list(l[0], l[1], l[3])}, {10, list(l[0], l[1], l[3])}, {high - 1, list(l[0], l[1], l[3])}, {high, l[:4]}, {math.MaxUint64 - 1, l[:4]}, {math.MaxUint64, l},
	} {
		mustBe(t, points.Upto(l, c.seq), c.want, "Upto", c.seq)
	}
	zero := list(pt(3, 1, 0), pt(2, 1, 1)) // not right, yet asked all the same
	mustBe(t, points.Upto(zero, 0), zero[:1], "Upto", 0)
}

func TestWindowOfSome(t *testing.T) {
	l := list(pt(3, 1, 1), pt(5, 1, 1), pt(8, 1, 1))
	for _, c := range []struct {
		at       int64
		width    uint64
		from, to int
	}{
		{8, 3, 2, 3}, // the chapter's example
		{8, 4, 1, 3}, {8, 5, 1, 3}, {8, 6, 0, 3}, {8, 1, 2, 3}, {8, 0, 0, 0}, {8, math.MaxUint64, 0, 3},
		{9, 1, 0, 0}, {9, 2, 2, 3}, {7, 2, 0, 0}, {7, 3, 1, 2}, {7, 9, 0, 2}, {5, 1, 1, 2}, {3, 1, 0, 1}, {2, 9, 0, 0}, {2, math.MaxUint64, 0, 0}, {math.MinInt64, math.MaxUint64, 0, 0},
	} {
		mustBe(t, points.Window(l, c.at, c.width), l[c.from:c.to], "Window", c.at, c.width)
	}
	ends := list(pt(math.MinInt64, 1, 1), pt(-1, 1, 1), pt(0, 1, 1), pt(math.MaxInt64, 1, 1))
	for _, c := range []struct {
		at       int64
		width    uint64
		from, to int
	}{
		{math.MaxInt64, math.MaxUint64, 1, 4}, // of 2^64 - 1, which is how far the first one is away, it is not less
		{math.MaxInt64 - 1, math.MaxUint64, 0, 3}, {math.MaxInt64 - 1, math.MaxUint64 - 1, 1, 3},
		{math.MaxInt64, high + 1, 1, 4}, {math.MaxInt64, high, 2, 4}, {math.MaxInt64, high - 1, 3, 4}, {math.MaxInt64, 1, 3, 4},
		{0, high, 1, 3}, {0, high + 1, 0, 3}, {-1, high - 1, 1, 2}, {-1, high, 0, 2},
		{math.MinInt64, 1, 0, 1}, {math.MinInt64, 2, 0, 1}, {math.MinInt64, math.MaxUint64, 0, 1}, {math.MinInt64, 0, 0, 0},
	} {
		mustBe(t, points.Window(ends, c.at, c.width), ends[c.from:c.to], "Window", c.at, c.width)
	}
}

func TestAtOfSome(t *testing.T) {
	l := list(pt(math.MinInt64, 9, 1), pt(3, 1, 1), pt(5, 2, 1), pt(8, 3, 1))
	none := api.Point{}
	for _, c := range []struct {
		l    []api.Point
		at   int64
		back uint64
		want api.Point
		is   bool
	}{
		{l, 8, 1, l[3], true}, {l, 8, 0, none, false}, {l, 8, 100, l[3], true}, {l, 9, 1, none, false}, {l, 9, 2, l[3], true}, {l, 7, 2, none, false}, {l, 7, 3, l[2], true}, {l, 7, 100, l[2], true}, {l, 4, 2, l[1], true}, {l, 3, 1, l[1], true}, {l, 2, 1000, none, false},
		{l, math.MaxInt64, math.MaxUint64, l[3], true}, {l, 2, high + 2, none, false}, {l, 2, high + 3, l[0], true}, {l, math.MinInt64, 1, l[0], true}, {l, math.MinInt64, 0, none, false},
		{l[:1], math.MaxInt64, math.MaxUint64, none, false}, {l[:1], math.MaxInt64 - 1, math.MaxUint64, l[0], true},
		{nil, 0, math.MaxUint64, none, false}, {[]api.Point{}, 5, 9, none, false},
		{list(none), 0, 1, none, true}, {list(none), 0, 0, none, false}, // a point of nothing but zeros is one
		{list(l[3], l[1], l[2], l[1]), 8, 9, l[1], true}, // the last one in order, not the latest
		{list(l[3], l[1], l[2], l[1]), 8, 4, l[2], true},
		{list(l[3], l[1], l[2], l[1]), 8, 3, l[3], true},
	} {
		if p, is := points.At(c.l, c.at, c.back); p != c.want || is != c.is {
			t.Errorf("At of %v at %d back %d: %v %v, want %v %v", c.l, c.at, c.back, p, is, c.want, c.is)
		}
	}
}

// mustHaveParts asks all parts of l, be it right or not.
func mustHaveParts(t *testing.T, l []api.Point) {
	t.Helper()
	for _, seq := range append([]uint64{0, 3, high - 1}, seqs...) {
		mustBe(t, points.Upto(l, seq), plainPart(l, func(p api.Point) bool { return p.Seq <= seq }), "Upto", l, seq)
	}
	for _, at := range append([]int64{-9, 7, 9, 10}, times...) {
		for _, hi := range times {
			mustBe(t, points.Range(l, at, hi), plainPart(l, func(p api.Point) bool { return p.T >= at && p.T <= hi }), "Range", l, at, hi)
		}
		for _, width := range widths {
			want := plainWindow(l, at, width)
			mustBe(t, points.Window(l, at, width), want, "Window", l, at, width)
			var last api.Point
			if len(want) > 0 {
				last = want[len(want)-1]
			}
			if p, is := points.At(l, at, width); p != last || is != (len(want) > 0) {
				t.Fatalf("At of %v at %d back %d: %v %v, want %v", l, at, width, p, is, want)
			}
		}
	}
}

func TestPartsOfAnyLists(t *testing.T) {
	mustHaveParts(t, nil)
	mustHaveParts(t, []api.Point{})
	d := sample.Draws(8)
	for range 200 {
		l := some(d, d.Below(15))
		for i := range l {
			if d.Below(5) == 0 {
				l[i].Seq = 0
			}
		}
		mustHaveParts(t, l)
		mustHaveParts(t, plainMerge(l))
	}
	for _, l := range wrongLists()[:60] {
		mustHaveParts(t, l)
	}
}

func TestPartsOfLongLists(t *testing.T) {
	for _, count := range []int{api.MaxPoints, api.MaxPoints + 1, 2*api.MaxPoints + 5} {
		l := many(count, 0)
		end := l[count-1].T
		mustBe(t, points.Range(l, 0, end), l, "Range", count)
		mustBe(t, points.Range(l, 3, end-1), l[2:count-1], "Range", count)
		mustBe(t, points.Upto(l, 5), l, "Upto", count)
		mustBe(t, points.Upto(l, 4), nil, "Upto", count)
		mustBe(t, points.Window(l, end, uint64(end)), l[1:], "Window", count)
		if p, is := points.At(l, end+9, 10); p != l[count-1] || !is {
			t.Error(count, p, is)
		}
	}
}

// P9.7

func TestPartsOfMerges(t *testing.T) {
	d := sample.Draws(9)
	for range 300 {
		a, b := plainMerge(some(d, d.Below(10))), plainMerge(some(d, d.Below(10)))
		m := merged(t, a, b)
		for _, seq := range append([]uint64{0, high - 1}, seqs...) {
			mustBe(t, points.Upto(m, seq), merged(t, points.Upto(a, seq), points.Upto(b, seq)), "Upto of a merge", a, b, seq)
		}
		for _, at := range times {
			for _, hi := range times {
				mustBe(t, points.Range(m, at, hi), merged(t, points.Range(a, at, hi), points.Range(b, at, hi)), "Range of a merge", a, b, at, hi)
			}
			for _, width := range widths {
				mustBe(t, points.Window(m, at, width), merged(t, points.Window(a, at, width), points.Window(b, at, width)), "Window of a merge", a, b, at, width)
			}
		}
	}
}

// P9.6

func TestPartsStayRight(t *testing.T) {
	d := sample.Draws(10)
	for range 300 {
		l := plainMerge(some(d, d.Below(15)))
		for _, at := range times {
			for _, part := range [][]api.Point{points.Range(l, at, 8), points.Upto(l, 2), points.Window(l, at, 12)} {
				if !points.Right(part) {
					t.Fatal(l, part)
				}
			}
		}
	}
}
