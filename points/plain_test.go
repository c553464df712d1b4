package points_test

import (
	"cmp"
	"math"
	"slices"
	"testing"

	"manometer/api"
	"manometer/points"
	"manometer/sample"
)

// high is a number whose highest bit is set: as one with a sign it would be below 0.
const high = 1 << 63

// The times, values and numbers that points have here, so few that points often have one time, and all of it but one field in common.
var (
	times  = []int64{math.MinInt64, math.MinInt64 + 1, -3, 0, 1, 8, math.MaxInt64 - 1, math.MaxInt64}
	values = []uint64{0, 1, api.NaN, high, math.MaxUint64}
	seqs   = []uint64{1, 2, high, math.MaxUint64}
)

func pt(t int64, v, seq uint64) api.Point { return api.Point{T: t, V: v, Seq: seq} }

func list(l ...api.Point) []api.Point { return l }

// few are all points of these times with two values and two numbers.
func few(times ...int64) []api.Point {
	var l []api.Point
	for _, t := range times {
		for _, v := range []uint64{7, high | 7} {
			for _, seq := range []uint64{3, high | 3} {
				l = append(l, pt(t, v, seq))
			}
		}
	}
	return l
}

// fewLists are all right lists of points of few.
func fewLists(times ...int64) [][]api.Point {
	all := [][]api.Point{nil}
	for _, t := range times {
		for _, l := range all[:len(all):len(all)] {
			for _, p := range few(t) {
				all = append(all, append(slices.Clone(l), p))
			}
		}
	}
	return all
}

// wrongLists are lists of some points that are not right: of a Seq of 0, of one time twice, of falling times.
func wrongLists() [][]api.Point {
	some := list(pt(-1, 5, 1), pt(2, 5, 1), pt(2, 6, 2), pt(2, 5, 0), pt(3, 4, 1))
	all := [][]api.Point{nil}
	for from := 0; len(all[from]) < 4; from++ {
		for _, p := range some {
			all = append(all, append(slices.Clone(all[from]), p))
		}
	}
	return slices.DeleteFunc(all, plainRight)
}

// some are count points that look like any.
func some(d *sample.Draw, count int) []api.Point {
	var l []api.Point
	for range count {
		t := times[d.Below(len(times))]
		if d.Below(3) == 0 {
			t = int64(d.Below(20)) - 10
		}
		l = append(l, pt(t, values[d.Below(len(values))], seqs[d.Below(len(seqs))]))
	}
	return l
}

// many are count points, the first one at the time from, the others each two ticks later.
func many(count int, from int64) []api.Point {
	l := make([]api.Point, count)
	for i := range l {
		l[i] = pt(from+2*int64(i), uint64(i%3), 5)
	}
	return l
}

// plainRight is Right, word by word.
func plainRight(l []api.Point) bool {
	for i, p := range l {
		if p.Seq < 1 {
			return false
		}
		for _, q := range l[:i] {
			if q.T >= p.T {
				return false
			}
		}
	}
	return len(l) <= 65536
}

// plainOrder is the order of points by time, and of one time by which one counts.
func plainOrder(p, q api.Point) int {
	return cmp.Or(cmp.Compare(p.T, q.T), cmp.Compare(p.Seq, q.Seq), cmp.Compare(p.V, q.V))
}

// plainMerge is, of any points, for each time the one that counts.
func plainMerge(lists ...[]api.Point) []api.Point {
	l := slices.Concat(lists...)
	slices.SortFunc(l, plainOrder)
	return slices.CompactFunc(l, func(p, q api.Point) bool { return p.T == q.T })
}

// plainPut is Put of a right list that has room, word by word.
func plainPut(l []api.Point, p api.Point) ([]api.Point, int) {
	m := slices.Clone(l)
	for i, q := range l {
		if q.T != p.T {
			continue
		}
		ahead := p.Seq < q.Seq || p.Seq == q.Seq && p.V < q.V
		if ahead {
			m[i] = p
		}
		if p.V == q.V {
			return m, api.PtSame
		}
		if ahead {
			return m, api.PtWon
		}
		return m, api.PtClash
	}
	m = append(m, p)
	slices.SortFunc(m, plainOrder)
	return m, api.PtNew
}

// plainPart is those of l that are asked for.
func plainPart(l []api.Point, asked func(api.Point) bool) []api.Point {
	return slices.DeleteFunc(slices.Clone(l), func(p api.Point) bool { return !asked(p) })
}

// short is the beginning of a list, to be shown where a test fails.
func short(l []api.Point) []api.Point { return l[:min(len(l), 8)] }

// mustPut asks Put, and what it is to answer.
func mustPut(t *testing.T, l []api.Point, p api.Point, want []api.Point, kind int, err api.Errno) {
	t.Helper()
	m, k, e := points.Put(l, p)
	if !slices.Equal(m, want) || k != kind || e != err {
		t.Fatalf("Put of %v, of %d points %v: %d points %v %d %d, want %d points %v %d %d", p, len(l), short(l), len(m), short(m), k, e, len(want), short(want), kind, err)
	}
}

// mustMerge asks Merge either way round, and what it is to answer.
func mustMerge(t *testing.T, a, b, want []api.Point, err api.Errno) {
	t.Helper()
	for range 2 {
		m, e := points.Merge(a, b)
		if !slices.Equal(m, want) || e != err {
			t.Fatalf("Merge of %d points %v and %d points %v: %d points %v %d, want %d points %v %d", len(a), short(a), len(b), short(b), len(m), short(m), e, len(want), short(want), err)
		}
		a, b = b, a
	}
}

// merged is the merge of lists of which there is one.
func merged(t *testing.T, lists ...[]api.Point) []api.Point {
	t.Helper()
	var all []api.Point
	for _, l := range lists {
		m, err := points.Merge(all, l)
		if err != api.OK {
			t.Fatalf("Merge of %v and %v: %d", short(all), short(l), err)
		}
		all = m
	}
	return all
}
