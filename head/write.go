package head

import (
	"math"
	"slices"

	"manometer/api"
	"manometer/labels"
	"manometer/points"
	"manometer/record"
)

// Record brings what a record says: a series, or points.
func (h *Head) Record(r api.Record) api.Errno {
	if !h.made() {
		return api.ErrMade
	}
	if err := record.Check(r); err != api.OK {
		return err
	}
	if r.Kind == api.RcPoints {
		return h.has.put(r.Points)
	}
	if ref, there := h.has.Ref(r.Labels); there && ref == uint64(r.Ref) { // it was recorded
		return api.OK
	}
	return h.has.begin(uint64(r.Ref), r.Labels)
}

// put brings these points, if all of them have a series with room.
func (s *series) put(l []api.Entry) api.Errno {
	more := map[uint64]int{} // how many points come, by their series' numbers
	for _, one := range l {
		ref := uint64(one.Ref)
		if _, there := s.lists[ref]; !there {
			return api.ErrRef
		}
		more[ref]++
	}
	for ref, count := range more {
		if !s.room(ref, count) {
			return api.ErrFull
		}
	}
	for _, one := range l {
		ref := uint64(one.Ref)
		s.lists[ref] = put(s.lists[ref], one.Point)
	}
	return api.OK
}

// room tells whether a series of that number, there or to come, has room for count points more, whatever their times.
func (s *series) room(ref uint64, count int) bool {
	return len(s.lists[ref])+count <= api.MaxPoints
}

// put is points.Put, but in place: the list is the Head's own and right, and need not be gone through and copied for each point.
func put(l []api.Point, p api.Point) []api.Point {
	at, there := points.Find(l, p.T)
	switch {
	case !there:
		return slices.Insert(l, at, p)
	case points.Ahead(p, l[at]):
		l[at] = p
	}
	return l
}

// Plan is the records by which the posts are written, and which of them have then what they ask for.
func (h *Head) Plan(seq uint64, l []api.Post) ([]api.Record, []api.Mark, api.Errno) {
	switch {
	case !h.made():
		return nil, nil, api.ErrMade
	case len(l) > api.MaxPosts:
		return nil, nil, api.ErrLong
	case seq == 0:
		return nil, nil, api.ErrArg
	}
	for _, one := range l {
		if err := labels.Right(one.Labels); err != api.OK {
			return nil, nil, err
		}
	}
	refs, begun := h.has.numbers(l)
	if !h.has.holds(refs, len(begun)) {
		return nil, nil, api.ErrFull
	}
	entries, marks := h.has.changes(seq, l, refs)
	if len(entries) > 0 {
		begun = append(begun, api.Record{Kind: api.RcPoints, Points: entries})
	}
	return begun, marks, api.OK
}

// numbers is the number of each post's series, and the records of the series that are not there yet.
func (s *series) numbers(l []api.Post) ([]uint64, []api.Record) {
	refs := make([]uint64, len(l))
	var begun []api.Record
	for i, one := range l {
		first := slices.IndexFunc(l, func(p api.Post) bool { return labels.Same(p.Labels, one.Labels) })
		ref, there := s.Ref(one.Labels)
		switch {
		case first < i:
			ref = refs[first]
		case !there:
			ref = s.last + uint64(len(begun)) + 1
			begun = append(begun, api.Record{Kind: api.RcSeries, Ref: uint32(ref), Labels: slices.Clone(one.Labels)})
		}
		refs[i] = ref
	}
	return refs, begun
}

// holds tells whether there is room for points of the series of these numbers, of which so many begin.
func (s *series) holds(refs []uint64, begun int) bool {
	if s.Len()+begun > api.MaxSeries {
		return false
	}
	for _, ref := range refs {
		count := 0
		for _, other := range refs {
			if other == ref {
				count++
			}
		}
		if ref > math.MaxUint32 || !s.room(ref, count) {
			return false
		}
	}
	return true
}

// spot is where a point stands: a series' number, and a time.
type spot struct {
	ref uint64
	t   int64
}

// changes is the points of the posts, of the series of these numbers, that change what stands there when they are put one by one, and the posts' marks behind that.
func (s *series) changes(seq uint64, l []api.Post, refs []uint64) ([]api.Entry, []api.Mark) {
	var entries []api.Entry
	standing := map[spot]api.Point{} // what stands at each post's spot, so far
	for i, one := range l {
		where := spot{refs[i], one.T}
		p := api.Point{T: one.T, V: one.V, Seq: seq}
		q, there := standing[where]
		if !there {
			q, there = s.at(where)
		}
		if !there || points.Ahead(p, q) {
			entries = append(entries, api.Entry{Ref: uint32(refs[i]), Point: p})
			q = p
		}
		standing[where] = q
	}
	marks := make([]api.Mark, len(l))
	for i, one := range l {
		marks[i] = api.Mark{At: one.At, Ok: standing[spot{refs[i], one.T}].V == one.V}
	}
	return entries, marks
}

// at is the point that stands at a spot, if there is one.
func (s *series) at(where spot) (api.Point, bool) {
	list := s.lists[where.ref]
	at, there := points.Find(list, where.t)
	if !there {
		return api.Point{}, false
	}
	return list[at], true
}
