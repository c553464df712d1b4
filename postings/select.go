package postings

import (
	"manometer/api"
	"manometer/match"
)

// Select is the numbers of the series that the matchers let pass, rising.
func (x *Index) Select(m []api.Matcher) ([]uint64, api.Errno) {
	if !x.made() {
		return nil, api.ErrMade
	}
	if err := match.Right(m); err != api.OK {
		return nil, err
	}
	var found, gone []uint64
	begun := false // right matchers have one at least that begins: one that asks for a label
	for _, one := range m {
		refs, pass := x.told(one)
		switch {
		case !pass:
			gone = Or(gone, refs)
		case begun:
			found = And(found, refs)
		default:
			found, begun = refs, true
		}
	}
	return Less(found, gone), api.OK
}

// told is the numbers of all series that a matcher lets pass, or, if it lets those pass that have no label of its name, which no posting tells, of all that it does not.
func (x *Index) told(m api.Matcher) ([]uint64, bool) {
	asked, err := match.New([]api.Matcher{m})
	if err == api.OK {
		return x.having(m, asked), true
	}
	m.Kind = opposite(m.Kind)
	asked, _ = match.New([]api.Matcher{m}) // of right matchers just one of both lets the empty value pass
	return x.having(m, asked), false
}

// opposite is the kind of the matchers that let pass what those of this kind do not.
func opposite(kind int) int {
	switch kind {
	case api.MtEq:
		return api.MtNe
	case api.MtNe:
		return api.MtEq
	case api.MtRe:
		return api.MtNr
	}
	return api.MtRe
}

// having is the numbers of the series that have a label of m's name, and of a value that asked, which is m alone, lets pass.
func (x *Index) having(m api.Matcher, asked *match.Set) []uint64 {
	values := x.postings[m.Name]
	if m.Kind == api.MtEq { // there is no need to go through the others
		return values[m.Value]
	}
	var found []uint64
	for value, refs := range values {
		if asked.Match(api.Labels{{Name: m.Name, Value: value}}) {
			found = append(found, refs...)
		}
	}
	return found
}
