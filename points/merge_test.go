package points_test

import (
	"math"
	"slices"
	"testing"

	"manometer/api"
	"manometer/points"
	"manometer/sample"
)

// P9.3

func TestMergeOfSome(t *testing.T) {
	a := list(pt(math.MinInt64, 1, 1), pt(3, 1, 4), pt(4, 2, 2), pt(9, 5, 5), pt(math.MaxInt64, 1, 7))
	b := list(pt(2, 2, 2), pt(3, 2, 3), pt(4, 3, 2), pt(9, 5, 5), pt(10, 1, 1), pt(math.MaxInt64, 1, 6))
	want := list(pt(math.MinInt64, 1, 1), pt(2, 2, 2), pt(3, 2, 3), pt(4, 2, 2), pt(9, 5, 5), pt(10, 1, 1), pt(math.MaxInt64, 1, 6))
	mustMerge(t, a, b, want, api.OK)
	mustMerge(t, want, a, want, api.OK)
	mustMerge(t, want, b, want, api.OK)
	mustMerge(t, nil, nil, nil, api.OK)
	mustMerge(t, []api.Point{}, nil, nil, api.OK)
	for _, l := range [][]api.Point{a, b, a[:1], b[5:], want} {
		mustMerge(t, nil, l, l, api.OK)
		mustMerge(t, []api.Point{}, l, l, api.OK)
	}
	mustMerge(t, a[:2], a[2:], a, api.OK) // all of one list ahead of all of the other one
	mustMerge(t, list(a[0], a[2], a[4]), list(a[1], a[3]), a, api.OK)
}

func TestMergeOfAllFew(t *testing.T) {
	all := fewLists(-1, 0, 4)
	for _, a := range all {
		for _, b := range all {
			mustMerge(t, a, b, plainMerge(a, b), api.OK)
		}
	}
}

func TestMergeOfWrongLists(t *testing.T) {
	long := many(api.MaxPoints+1, 0)
	for _, l := range append(wrongLists(), long) {
		mustMerge(t, l, nil, nil, api.ErrArg)
		mustMerge(t, l, list(pt(7, 7, 7)), nil, api.ErrArg)
		mustMerge(t, l, l, nil, api.ErrArg)
		mustMerge(t, l, list(pt(7, 7, 0)), nil, api.ErrArg)
	}
	full, other := many(api.MaxPoints, 0), many(api.MaxPoints, 1)
	mustMerge(t, long, full, nil, api.ErrArg)
	other[api.MaxPoints-1].Seq = 0 // more than have room, and not right either
	mustMerge(t, full, other, nil, api.ErrArg)
	other[api.MaxPoints-1] = pt(1, 1, 1)
	mustMerge(t, full, other, nil, api.ErrArg)
}

func TestMergeOfFullLists(t *testing.T) {
	full := many(api.MaxPoints, -70000)
	mustMerge(t, full, full, full, api.OK)
	mustMerge(t, full, full[7:100], full, api.OK)
	mustMerge(t, full[:40000], full[30000:], full, api.OK)
	mustMerge(t, full[:40000], full[40000:], full, api.OK)
	mustMerge(t, full, nil, full, api.OK)

	ahead := slices.Clone(full)
	for i := range ahead {
		ahead[i].Seq--
	}
	mustMerge(t, full, ahead, ahead, api.OK)

	for _, at := range []int64{math.MinInt64, -70001, 1, math.MaxInt64} {
		mustMerge(t, full, list(pt(at, 1, 1)), nil, api.ErrFull)
		mustMerge(t, full[1:], list(pt(at, 1, 1)), plainMerge(full[1:], list(pt(at, 1, 1))), api.OK)
		mustMerge(t, full[1:], list(full[0], pt(math.MaxInt64-5, 1, 1)), nil, api.ErrFull)
	}
	mustMerge(t, full, many(api.MaxPoints, -69999), nil, api.ErrFull)
	mustMerge(t, full, many(api.MaxPoints, 1000000), nil, api.ErrFull)
	mustMerge(t, full[:api.MaxPoints/2+1], many(api.MaxPoints/2, 1000001), nil, api.ErrFull)
}

// P9.5

func TestMergeOfThree(t *testing.T) {
	all := fewLists(-1, 0)
	for _, a := range all {
		for _, b := range all {
			for _, c := range all {
				want := plainMerge(a, b, c)
				first := merged(t, merged(t, a, b), c)
				last := merged(t, a, merged(t, b, c))
				other := merged(t, b, merged(t, c, a))
				if !slices.Equal(first, want) || !slices.Equal(last, want) || !slices.Equal(other, want) {
					t.Fatal(a, b, c, first, last, other)
				}
			}
		}
	}
}

// However three are merged that have no room together, it is refused.
func TestMergeOfThreeWithoutRoom(t *testing.T) {
	l := [][]api.Point{many(30000, 0), many(30000, 1), many(30000, 100000)}
	for _, c := range [][3]int{{0, 1, 2}, {0, 2, 1}, {1, 2, 0}} {
		two, err := points.Merge(l[c[0]], l[c[1]])
		if err != api.OK || len(two) > api.MaxPoints {
			t.Fatal(c, len(two), err)
		}
		mustMerge(t, two, l[c[2]], nil, api.ErrFull)
	}
}

func TestMergeOfMany(t *testing.T) {
	d := sample.Draws(6)
	for range 3000 {
		var l [3][]api.Point
		for i := range l {
			l[i] = plainMerge(some(d, d.Below(15)))
			mustMerge(t, l[i], l[i], l[i], api.OK)
		}
		mustMerge(t, l[0], l[1], plainMerge(l[0], l[1]), api.OK)
		mustMerge(t, merged(t, l[0], l[1]), l[2], plainMerge(l[:]...), api.OK)
		mustMerge(t, l[0], merged(t, l[1], l[2]), plainMerge(l[:]...), api.OK)
	}
}

// P9.6

func TestMergeStaysRight(t *testing.T) {
	d := sample.Draws(7)
	for range 2000 {
		a, b := plainMerge(some(d, d.Below(10))), plainMerge(some(d, d.Below(10)))
		m := merged(t, a, b)
		if !points.Right(m) {
			t.Fatal(a, b, m)
		}
		for _, p := range slices.Concat(a, b) {
			if i, is := points.Find(m, p.T); !is || m[i] != p && !points.Ahead(m[i], p) {
				t.Fatal(p, m)
			}
		}
		for _, p := range m {
			if !slices.Contains(a, p) && !slices.Contains(b, p) {
				t.Fatal(p, a, b)
			}
		}
	}
}
