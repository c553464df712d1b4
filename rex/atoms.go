package rex

import "manometer/api"

// span is the runes from lo to hi.
type span struct{ lo, hi rune }

// atom takes one rune: of one of its spans, or, turned, of none.
type atom struct {
	spans  []span
	turned bool
	next   set // the atoms that may come behind it
}

// takes tells whether the atom takes c.
func (a *atom) takes(c rune) bool {
	for _, s := range a.spans {
		if s.lo <= c && c <= s.hi {
			return !a.turned
		}
	}
	return a.turned
}

// several is the runes that c stands for behind a backslash, if these are more than one.
func several(c rune) []span {
	switch c {
	case 'd':
		return []span{{'0', '9'}}
	case 'w':
		return []span{{'0', '9'}, {'A', 'Z'}, {'a', 'z'}, {'_', '_'}}
	case 's':
		return []span{{' ', ' '}, {'\t', '\n'}}
	}
	return nil
}

// set is some of a pattern's atoms, a bit each: an atom takes a byte of the pattern's text at least, so that there are no more.
type set [(api.MaxRex + 63) / 64]uint64

// only is the set of the atom i alone.
func only(i int) set {
	var s set
	s[i/64] = 1 << (i % 64)
	return s
}

// has tells whether the atom i is one of s.
func (s set) has(i int) bool { return s[i/64]>>(i%64)&1 == 1 }

// with is the atoms of s and of t.
func (s set) with(t set) set {
	for i := range s {
		s[i] |= t[i]
	}
	return s
}

// part is what is known of a part of a pattern: which atoms its matches may begin and end with, and whether it matches a text without runes.
type part struct {
	first, last set
	empty       bool
}

// either matches what a or b does.
func either(a, b part) part {
	return part{a.first.with(b.first), a.last.with(b.last), a.empty || b.empty}
}
