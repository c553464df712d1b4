package points_test

import (
	"math"
	"slices"
	"testing"

	"manometer/api"
	"manometer/points"
	"manometer/sample"
)

// P9.2 to P9.4 by R4: nothing that is handed in is written or answered, nor what has room behind it.

// spare is what stands in the room behind a list that is handed in.
var spare = pt(77, 77, 77)

// lent is l in memory with room behind it.
func lent(l []api.Point) []api.Point {
	whole := append(slices.Clone(l), spare, spare, spare)
	return whole[:len(l)]
}

// mustBeLeft asks that what was lent is as it was, and what stands behind it, too.
func mustBeLeft(t *testing.T, got, want []api.Point, call string) {
	t.Helper()
	if !slices.Equal(got, want) || !slices.Equal(got[:len(got)+3][len(got):], list(spare, spare, spare)) {
		t.Fatalf("%s: what was handed in is now %v, was %v", call, got[:len(got)+3], want)
	}
}

// calls are all calls that answer a list, of two lists and a point.
func calls(p api.Point) map[string]func(a, b []api.Point) []api.Point {
	return map[string]func(a, b []api.Point) []api.Point{
		"Put":          func(a, b []api.Point) []api.Point { m, _, _ := points.Put(a, p); return m },
		"Put of Seq 0": func(a, b []api.Point) []api.Point { m, _, _ := points.Put(a, pt(p.T, p.V, 0)); return m },
		"Merge":        func(a, b []api.Point) []api.Point { m, _ := points.Merge(a, b); return m },
		"Range":        func(a, b []api.Point) []api.Point { return points.Range(a, math.MinInt64, math.MaxInt64) },
		"Range to":     func(a, b []api.Point) []api.Point { return points.Range(a, math.MinInt64, p.T) },
		"Range from":   func(a, b []api.Point) []api.Point { return points.Range(a, p.T, math.MaxInt64) },
		"Upto":         func(a, b []api.Point) []api.Point { return points.Upto(a, p.Seq) },
		"Upto all":     func(a, b []api.Point) []api.Point { return points.Upto(a, math.MaxUint64) },
		"Window":       func(a, b []api.Point) []api.Point { return points.Window(a, p.T, math.MaxUint64) },
		"Window all":   func(a, b []api.Point) []api.Point { return points.Window(a, math.MaxInt64-1, math.MaxUint64) },
	}
}

// mustOwnItsMemory asks one call twice, and spoils what it answered, and what it was handed.
func mustOwnItsMemory(t *testing.T, name string, call func(a, b []api.Point) []api.Point, a, b []api.Point) {
	t.Helper()
	x, y := lent(a), lent(b)
	first, second := call(x, y), call(x, y)
	want := slices.Clone(first)
	clear(first[:cap(first)])
	mustBeLeft(t, x, a, name)
	mustBeLeft(t, y, b, name)
	mustBe(t, second, want, name+" asked twice", a, b)
	clear(x[:cap(x)])
	clear(y[:cap(y)])
	mustBe(t, second, want, name+" of what is spoilt", a, b)
}

func TestNothingIsSharedOrWritten(t *testing.T) {
	d := sample.Draws(11)
	lists := [][]api.Point{nil, list(pt(5, 7, 2)), list(pt(5, 7, 2), pt(8, 7, 2))}
	for range 60 {
		lists = append(lists, plainMerge(some(d, d.Below(9))))
	}
	for _, a := range append(lists, wrongLists()[:60]...) {
		for _, p := range append(some(d, 10), pt(5, 7, 2), pt(5, 7, 1), pt(5, 7, 3), pt(5, 6, 2), pt(5, 8, 2), pt(8, 7, 2), pt(6, 7, 2), pt(9, 7, 2)) {
			for name, call := range calls(p) {
				mustOwnItsMemory(t, name, call, a, lists[d.Below(len(lists))])
				mustOwnItsMemory(t, name, call, a, nil)
			}
		}
	}
	full := many(api.MaxPoints, 0)
	for _, p := range list(pt(1, 1, 1), pt(0, 9, 1), pt(0, 9, 9), full[0], full[api.MaxPoints-1]) {
		for name, call := range calls(p) {
			mustOwnItsMemory(t, name, call, full, full[:9])
		}
	}
}

// A list that is handed in twice is none the worse for it.
func TestMergeOfOneListWithItself(t *testing.T) {
	d := sample.Draws(12)
	for range 200 {
		l := plainMerge(some(d, d.Below(9)))
		x := lent(l)
		mustMerge(t, x, x, l, api.OK)
		mustMerge(t, x[:len(x)/2], x, l, api.OK)
		mustBeLeft(t, x, l, "Merge")
	}
}
