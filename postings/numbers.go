package postings

import "slices"

// And is the numbers that a and b have both, rising.
func And(a, b []uint64) []uint64 {
	return together(a, b, func(inA, inB bool) bool { return inA && inB })
}

// Or is the numbers that a or b has, rising.
func Or(a, b []uint64) []uint64 {
	return together(a, b, func(inA, inB bool) bool { return inA || inB })
}

// Less is the numbers that a has and b has not, rising.
func Less(a, b []uint64) []uint64 {
	return together(a, b, func(inA, inB bool) bool { return inA && !inB })
}

// together is the numbers of a and b that are kept, by which of both has them; each once, rising.
func together(a, b []uint64, kept func(inA, inB bool) bool) []uint64 {
	a, b = rising(a), rising(b)
	var all []uint64
	for len(a) > 0 || len(b) > 0 {
		inA := len(b) == 0 || len(a) > 0 && a[0] <= b[0]
		inB := len(a) == 0 || len(b) > 0 && b[0] <= a[0]
		var next uint64
		if inB {
			next, b = b[0], b[1:]
		}
		if inA {
			next, a = a[0], a[1:]
		}
		if kept(inA, inB) {
			all = append(all, next)
		}
	}
	return all
}

// rising is the numbers of l, each once, rising, in memory of their own.
func rising(l []uint64) []uint64 {
	sorted := slices.Clone(l)
	slices.Sort(sorted)
	return slices.Compact(sorted)
}
