package postings_test

import (
	"slices"
	"testing"

	"manometer/postings"
	"manometer/sample"
)

// P10.3

// mustPut asks And, Or and Less of a and b.
func mustPut(t *testing.T, a, b, and, or, less []uint64) {
	t.Helper()
	for _, c := range []struct {
		name      string
		got, want []uint64
	}{
		{"And", postings.And(a, b), and}, {"Or", postings.Or(a, b), or}, {"Less", postings.Less(a, b), less},
	} {
		if !slices.Equal(c.got, c.want) {
			t.Fatalf("%s of %.20v and %.20v: %.20v, want %.20v", c.name, a, b, c.got, c.want)
		}
	}
}

// plainNumbers is And, Or and Less, word by word: number by number of those that either may have.
func plainNumbers(of, a, b []uint64) (and, or, less []uint64) {
	for _, n := range of {
		inA, inB := slices.Contains(a, n), slices.Contains(b, n)
		if inA && inB {
			and = append(and, n)
		}
		if inA || inB {
			or = append(or, n)
		}
		if inA && !inB {
			less = append(less, n)
		}
	}
	return and, or, less
}

func TestNumbersOfSome(t *testing.T) {
	const most = 1<<64 - 1
	for _, c := range []struct{ a, b, and, or, less []uint64 }{
		{nil, nil, nil, nil, nil},
		{nums(), nil, nil, nil, nil},
		{nums(1), nil, nil, nums(1), nums(1)},
		{nil, nums(1), nil, nums(1), nil},
		{nums(1), nums(1), nums(1), nums(1), nil},
		{nums(1), nums(2), nil, nums(1, 2), nums(1)},
		{nums(2), nums(1), nil, nums(1, 2), nums(2)},
		{nums(0), nums(most), nil, nums(0, most), nums(0)},
		{nums(most), nums(0), nil, nums(0, most), nums(most)},
		{nums(most, 0), nums(0, most), nums(0, most), nums(0, most), nil},
		{nums(high, 1), nums(high), nums(high), nums(1, high), nums(1)}, // without a sign a high one stands behind
		{nums(3, 1, 3, 2), nums(2, 5), nums(2), nums(1, 2, 3, 5), nums(1, 3)},
		{nums(5, 5, 5), nums(5, 5), nums(5), nums(5), nil},
		{nums(5, 5, 5), nums(4, 4), nil, nums(4, 5), nums(5)},
		{nums(4, 4), nums(9, 5, 5), nil, nums(4, 5, 9), nums(4)},
		{nums(9, 7, 5, 3, 1), nums(2, 3, 4, 5, 6), nums(3, 5), nums(1, 2, 3, 4, 5, 6, 7, 9), nums(1, 7, 9)},
		{nums(1, 2, 3), nums(4, 5, 6), nil, nums(1, 2, 3, 4, 5, 6), nums(1, 2, 3)},
		{nums(4, 5, 6), nums(1, 2, 3), nil, nums(1, 2, 3, 4, 5, 6), nums(4, 5, 6)},
		{nums(1, 2, 3, 4), nums(2, 3), nums(2, 3), nums(1, 2, 3, 4), nums(1, 4)},
		{nums(2, 3), nums(1, 2, 3, 4), nums(2, 3), nums(1, 2, 3, 4), nil},
		{nums(0, 0), nums(0), nums(0), nums(0), nil},
		{nums(0, 1), nil, nil, nums(0, 1), nums(0, 1)},
	} {
		mustPut(t, c.a, c.b, c.and, c.or, c.less)
	}
}

func TestNumbersOfAllShortLists(t *testing.T) {
	few := nums(0, 7, high, 1<<64-1)
	lists := [][]uint64{nil}
	for from := 0; len(lists[from]) < 4; from++ {
		for _, n := range few {
			lists = append(lists, append(slices.Clone(lists[from]), n))
		}
	}
	for _, a := range lists {
		for _, b := range lists {
			and, or, less := plainNumbers(few, a, b)
			mustPut(t, a, b, and, or, less)
		}
	}
}

func TestNumbersOfMany(t *testing.T) {
	d := sample.Draws(29)
	var all []uint64
	for n := range uint64(90) {
		all = append(all, n*n*n)
	}
	all = append(all, high-1, high, high+1, 1<<64-1)
	for range 500 {
		var a, b []uint64
		for range d.Below(120) {
			a = append(a, all[d.Below(len(all))])
		}
		for range d.Below(120) {
			b = append(b, all[d.Below(len(all))])
		}
		and, or, less := plainNumbers(all, a, b)
		mustPut(t, a, b, and, or, less)
		mustPut(t, and, less, nil, slices.Sorted(slices.Values(slices.Compact(slices.Sorted(slices.Values(a))))), and)
		mustPut(t, a, a, postings.Or(a, nil), postings.Or(a, nil), nil)
	}
}

// Lists are as long as may be, beyond what an index has.
func TestNumbersOfLongLists(t *testing.T) {
	const count = 1 << 20
	var twos, threes, and, or, less []uint64
	for n := range uint64(count) {
		if n%2 == 0 {
			twos = append(twos, n)
		}
		if n%3 == 0 {
			threes = append(threes, n)
		}
		if n%6 == 0 {
			and = append(and, n)
		}
		if n%2 == 0 || n%3 == 0 {
			or = append(or, n)
		}
		if n%2 == 0 && n%3 != 0 {
			less = append(less, n)
		}
	}
	mustPut(t, twos, threes, and, or, less)
	slices.Reverse(twos)
	mustPut(t, append(twos, twos...), threes, and, or, less)
	mustPut(t, slices.Repeat(nums(6, 4), count), slices.Repeat(nums(6), count), nums(6), nums(4, 6), nums(4))
}
