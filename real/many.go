package real

import (
	"math"
	"slices"

	"manometer/api"
)

// Sum tells the sum of l; what each step rounds away is summed beside it, and comes to it at the end.
func Sum(l []uint64) uint64 {
	s, c := 0.0, 0.0
	for _, v := range l {
		x := number(v)
		t := s + x
		if math.Abs(s) < math.Abs(x) {
			c += (x - t) + s
		} else {
			c += (s - t) + x
		}
		s = t
	}
	// Behind an infinite sum c is no number; what was rounded away does not count there.
	if math.IsInf(s, 0) {
		return told(s)
	}
	return told(s + c)
}

// Mean tells the sum of l by how many there are; of none that is 0 by 0, and no number.
func Mean(l []uint64) uint64 {
	return Do(api.OpDiv, Sum(l), Of(int64(len(l))))
}

// Sort tells all of l, by Order.
func Sort(l []uint64) []uint64 {
	s := slices.Clone(l)
	slices.SortFunc(s, func(a, b uint64) int { return Order(a, b) })
	return s
}

// Quantile tells the value at the part q of l in order; between two places, some of both.
func Quantile(q uint64, l []uint64) uint64 {
	x := number(q)
	switch {
	case len(l) == 0 || math.IsNaN(x):
		return api.NaN
	case x < 0:
		return told(math.Inf(-1))
	case x > 1:
		return told(math.Inf(1))
	}
	s := Sort(l)
	last := len(s) - 1
	// A product that is told to be a float64 is rounded by itself: a machine may not take it together with what comes next.
	r := float64(x * float64(last))
	f := math.Floor(r)
	part := r - f
	one, next := s[int(f)], s[min(int(f)+1, last)]
	return told(float64(number(one)*(1-part)) + float64(number(next)*part))
}
