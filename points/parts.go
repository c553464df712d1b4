package points

import "manometer/api"

// The parts are told of lists that are not right, too, so that each point is asked by itself.

// those are the points of l that are asked for, in order.
func those(l []api.Point, asked func(api.Point) bool) []api.Point {
	var m []api.Point
	for _, p := range l {
		if asked(p) {
			m = append(m, p)
		}
	}
	return m
}

// Range is the points of the times from lo to hi.
func Range(l []api.Point, lo, hi int64) []api.Point {
	return those(l, func(p api.Point) bool { return lo <= p.T && p.T <= hi })
}

// Upto is the points that came by the write of the number seq, or by one ahead of it.
func Upto(l []api.Point, seq uint64) []api.Point {
	return those(l, func(p api.Point) bool { return p.Seq <= seq })
}

// near tells whether p's time is not above t, and t less than width away from it, which may be farther than an int64 tells.
func near(p api.Point, t int64, width uint64) bool {
	return p.T <= t && uint64(t)-uint64(p.T) < width
}

// Window is the points up to the time t, of which t is less than width away.
func Window(l []api.Point, t int64, width uint64) []api.Point {
	return those(l, func(p api.Point) bool { return near(p, t, width) })
}

// At is the last point of Window, if it has one.
func At(l []api.Point, t int64, back uint64) (api.Point, bool) {
	for i := len(l) - 1; i >= 0; i-- {
		if near(l[i], t, back) {
			return l[i], true
		}
	}
	return api.Point{}, false
}
