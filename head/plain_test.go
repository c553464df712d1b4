package head_test

import (
	"cmp"
	"fmt"
	"math"
	"slices"
	"strconv"
	"testing"

	"manometer/api"
	"manometer/head"
	"manometer/labels"
	"manometer/match"
	"manometer/points"
	"manometer/record"
	"manometer/sample"
)

// The chapter's sentences, word by word.

// plain is a head: its series, gone through by each call.
type plain []api.Series

// plainOf is Of.
func plainOf(l []api.Series) (plain, api.Errno) {
	if len(l) > 4096 {
		return nil, api.ErrLong
	}
	for i, one := range l {
		if i == 0 && one.Ref == 0 || i > 0 && one.Ref <= l[i-1].Ref {
			return nil, api.ErrArg
		}
		if err := labels.Right(one.Labels); err != api.OK {
			return nil, err
		}
		if !points.Right(one.Points) {
			return nil, api.ErrArg
		}
	}
	for i := range l {
		for _, other := range l[:i] {
			if labels.Same(l[i].Labels, other.Labels) {
				return nil, api.ErrTwice
			}
		}
	}
	return plain(l).clone(), api.OK
}

func (p plain) clone() plain {
	c := slices.Clone(p)
	for i := range c {
		c[i] = api.Series{Ref: c[i].Ref, Labels: slices.Clone(c[i].Labels), Points: slices.Clone(c[i].Points)}
	}
	return c
}

// with is the place of the series with these labels, -1 if there is none.
func (p plain) with(l api.Labels) int {
	return slices.IndexFunc(p, func(s api.Series) bool { return labels.Same(s.Labels, l) })
}

// numbered is the place of the series of that number, -1 if there is none.
func (p plain) numbered(ref uint32) int {
	return slices.IndexFunc(p, func(s api.Series) bool { return s.Ref == ref })
}

// plainPut is the list with p, where p counts.
func plainPut(l []api.Point, p api.Point) []api.Point {
	l = append(slices.Clone(l), p)
	slices.SortFunc(l, func(p, q api.Point) int {
		return cmp.Or(cmp.Compare(p.T, q.T), cmp.Compare(p.Seq, q.Seq), cmp.Compare(p.V, q.V))
	})
	return slices.CompactFunc(l, func(p, q api.Point) bool { return p.T == q.T })
}

// record is Record.
func (p *plain) record(r api.Record) api.Errno {
	if err := record.Check(r); err != api.OK {
		return err
	}
	if r.Kind == api.RcSeries {
		return p.begin(r)
	}
	for _, one := range r.Points {
		if p.numbered(one.Ref) < 0 {
			return api.ErrRef
		}
	}
	for _, s := range *p {
		count := len(s.Points)
		for _, one := range r.Points {
			if one.Ref == s.Ref {
				count++
			}
		}
		if count > len(s.Points) && count > 65536 {
			return api.ErrFull
		}
	}
	*p = p.clone()
	for _, one := range r.Points {
		s := &(*p)[p.numbered(one.Ref)]
		s.Points = plainPut(s.Points, one.Point)
	}
	return api.OK
}

func (p *plain) begin(r api.Record) api.Errno {
	if i := p.numbered(r.Ref); i >= 0 && labels.Same((*p)[i].Labels, r.Labels) {
		return api.OK
	}
	switch {
	case p.numbered(r.Ref) >= 0 || p.with(r.Labels) >= 0:
		return api.ErrThere
	case len(*p) >= 4096:
		return api.ErrFull
	}
	*p = append(p.clone(), api.Series{Ref: r.Ref, Labels: slices.Clone(r.Labels)})
	return api.OK
}

// plan is Plan: it puts the posts to a plain head of its own, one by one, and tells what has changed.
func (p plain) plan(seq uint64, l []api.Post) ([]api.Record, []api.Mark, api.Errno) {
	if len(l) > 16 {
		return nil, nil, api.ErrLong
	}
	if seq == 0 {
		return nil, nil, api.ErrArg
	}
	for _, post := range l {
		if err := labels.Right(post.Labels); err != api.OK {
			return nil, nil, err
		}
	}
	next := uint64(1)
	for _, s := range p {
		next = max(next, uint64(s.Ref)+1)
	}
	then := p.clone()
	var records []api.Record
	for _, post := range l {
		if then.with(post.Labels) < 0 {
			if next > 1<<32-1 {
				return nil, nil, api.ErrFull
			}
			records = append(records, begun(uint32(next), post.Labels))
			then = append(then, api.Series{Ref: uint32(next), Labels: post.Labels})
			next++
		}
	}
	if len(then) > 4096 || then.crowded(l) {
		return nil, nil, api.ErrFull
	}
	var entries []api.Entry
	for _, post := range l {
		s := &then[then.with(post.Labels)]
		entry := api.Entry{Ref: s.Ref, Point: pt(post.T, post.V, seq)}
		was := s.Points
		if s.Points = plainPut(was, entry.Point); !slices.Equal(was, s.Points) {
			entries = append(entries, entry)
		}
	}
	if len(entries) > 0 {
		records = append(records, came(entries...))
	}
	var marks []api.Mark
	for _, post := range l {
		marks = append(marks, api.Mark{At: post.At, Ok: then.says(post)})
	}
	return records, marks, api.OK
}

// crowded tells whether a series has no room for the posts with its labels.
func (p plain) crowded(l []api.Post) bool {
	for _, s := range p {
		count := 0
		for _, post := range l {
			if labels.Same(post.Labels, s.Labels) {
				count++
			}
		}
		if count > 0 && len(s.Points)+count > 65536 {
			return true
		}
	}
	return false
}

// says tells whether the post's series has at its time a point with its value.
func (p plain) says(post api.Post) bool {
	i := p.with(post.Labels)
	return i >= 0 && slices.ContainsFunc(p[i].Points, func(q api.Point) bool { return q.T == post.T && q.V == post.V })
}

// query is Query.
func (p plain) query(m []api.Matcher, lo, hi int64, upto uint64) ([]api.Series, api.Errno) {
	if err := match.Right(m); err != api.OK {
		return nil, err
	}
	var found []api.Series
	for _, s := range p {
		one := api.Series{Labels: s.Labels}
		for _, q := range s.Points {
			if q.T >= lo && q.T <= hi && q.Seq <= upto {
				one.Points = append(one.Points, q)
			}
		}
		if match.All(m, s.Labels) && len(one.Points) > 0 {
			found = append(found, one)
		}
	}
	slices.SortFunc(found, byLabels)
	return found, api.OK
}

func byLabels(a, b api.Series) int { return labels.Compare(a.Labels, b.Labels) }

// all is All.
func (p plain) all() []api.Series {
	all := p.clone()
	slices.SortFunc(all, func(a, b api.Series) int { return cmp.Compare(a.Ref, b.Ref) })
	return all
}

// What is asked with.

func pt(t int64, v, seq uint64) api.Point { return api.Point{T: t, V: v, Seq: seq} }

func list(l ...api.Point) []api.Point { return l }

// of is the labels of names and values that stand by turns.
func of(parts ...string) api.Labels {
	var l api.Labels
	for i := 0; i < len(parts); i += 2 {
		l = append(l, api.Label{Name: parts[i], Value: parts[i+1]})
	}
	return l
}

func post(at int, l api.Labels, t int64, v uint64) api.Post {
	return api.Post{At: at, Labels: l, T: t, V: v}
}

// begun is the record of a series that begins.
func begun(ref uint32, l api.Labels) api.Record {
	return api.Record{Kind: api.RcSeries, Ref: ref, Labels: l}
}

// came is the record of points that come.
func came(l ...api.Entry) api.Record { return api.Record{Kind: api.RcPoints, Points: l} }

func entry(ref uint32, t int64, v, seq uint64) api.Entry {
	return api.Entry{Ref: ref, Point: pt(t, v, seq)}
}

func one(kind int, name, value string) []api.Matcher {
	return []api.Matcher{{Kind: kind, Name: name, Value: value}}
}

// high is a number whose highest bit is set: as one with a sign it would be below 0.
const high = 1 << 63

// The times, values and numbers of what is drawn: so few that points often meet.
var (
	times  = []int64{math.MinInt64, -1, 0, 5, math.MaxInt64}
	values = []uint64{0, 7, high, math.MaxUint64}
	seqs   = []uint64{1, 2, 3, high, math.MaxUint64}
)

// sets are right labels, not in their order.
func sets() []api.Labels {
	return []api.Labels{of("a", "x"), of("b", "x"), of("a", "x", "b", "x"), of("__name__", "up", "a", "y"), nil, of("a", "ä"), of("a", "X"), of("ab", "c")}
}

// asked are right matchers, and some that are not.
func asked() [][]api.Matcher {
	l := [][]api.Matcher{nil, one(api.MtEq, "a", "x"), one(api.MtNe, "a", ""), one(api.MtRe, "a", "x|y"), one(api.MtNr, "b", ""), one(api.MtRe, "__name__", ".+"), one(api.MtEq, "none", "x"), one(api.MtEq, "a", ""), one(api.MtNe, "a", "x"), one(5, "a", "x"), one(api.MtEq, "1", "x"), one(api.MtRe, "a", "("), one(api.MtNe, "a", "\xff")}
	return append(l, append(one(api.MtNe, "a", ""), one(api.MtEq, "b", "")...), append(one(api.MtEq, "b", "x"), one(api.MtNe, "a", "x")...))
}

// drawnPoints are up to count points that look like any, as a right list.
func drawnPoints(d *sample.Draw, count int) []api.Point {
	var l []api.Point
	for range d.Below(count + 1) {
		l = plainPut(l, pt(drawnTime(d), pick(d, values), pick(d, seqs)))
	}
	return l
}

func drawnTime(d *sample.Draw) int64 {
	if d.Below(3) == 0 {
		return int64(d.Below(6))
	}
	return pick(d, times)
}

func pick[E any](d *sample.Draw, l []E) E { return l[d.Below(len(l))] }

// drawnSeries are series of some of the sets, in any order, with numbers that leave gaps.
func drawnSeries(d *sample.Draw) []api.Series {
	var l []api.Series
	ref := uint32(0)
	for _, set := range shuffled(d, sets()) {
		if d.Below(3) == 0 {
			continue
		}
		ref += uint32(1 + d.Below(3))
		l = append(l, api.Series{Ref: ref, Labels: set, Points: drawnPoints(d, 6)})
	}
	return l
}

// drawnPosts are up to count posts of any of the sets.
func drawnPosts(d *sample.Draw, count int) []api.Post {
	var l []api.Post
	for range d.Below(count + 1) {
		l = append(l, post(d.Below(20)-2, pick(d, sets()), drawnTime(d), pick(d, values)))
	}
	return l
}

// shuffled is l in an order that looks like any.
func shuffled[E any](d *sample.Draw, l []E) []E {
	l = slices.Clone(l)
	for i := range l {
		j := d.Below(i + 1)
		l[i], l[j] = l[j], l[i]
	}
	return l
}

// wide is n series with points, none twice.
func wide(n int) []api.Series {
	l := make([]api.Series, n)
	for i := range l {
		l[i] = api.Series{Ref: uint32(2*i + 1), Labels: of("a", "x", "n", strconv.Itoa(i))}
		l[i].Points = list(pt(int64(i), uint64(i), 1))
	}
	return l
}

// many is n points, two ticks from one another.
func many(n int) []api.Point {
	l := make([]api.Point, n)
	for i := range l {
		l[i] = pt(int64(2*i), 7, 5)
	}
	return l
}

// What is asked of a head.

// short is the beginning of what is shown where a test fails.
func short(x any) string {
	s := fmt.Sprint(x)
	return s[:min(len(s), 2000)]
}

func sameSeries(a, b api.Series) bool {
	return a.Ref == b.Ref && labels.Same(a.Labels, b.Labels) && slices.Equal(a.Points, b.Points)
}

func headOf(t *testing.T, l []api.Series) *head.Head {
	t.Helper()
	h, err := head.Of(l)
	if err != api.OK || h == nil {
		t.Fatalf("Of %d series: %v, %d", len(l), h, err)
	}
	return h
}

// mustHave asks all series, how many they are, and each by its labels.
func mustHave(t *testing.T, h *head.Head, p plain) {
	t.Helper()
	if got, want := h.All(), p.all(); !slices.EqualFunc(got, want, sameSeries) {
		t.Fatalf("All: %s, want %s", short(got), short(want))
	}
	sum := 0
	for _, s := range p {
		sum += len(s.Points)
	}
	if n, m := h.Count(); n != len(p) || m != sum {
		t.Fatalf("Count: %d, %d, want %d, %d", n, m, len(p), sum)
	}
	others := append(sets(), of("a", ""), of("b", "x", "a", "x"), of("none", "x"), of("a", "\xff"))
	for _, s := range p {
		others = append(others, s.Labels)
	}
	for _, l := range others {
		got, is := h.Get(l)
		var want []api.Point
		i := p.with(l)
		if i >= 0 {
			want = p[i].Points
		}
		if is != (i >= 0) || !slices.Equal(got, want) {
			t.Fatalf("Get of %v: %s, %v, want %s", l, short(got), is, short(want))
		}
	}
}

// mustAnswer asks h what can be asked of it.
func mustAnswer(t *testing.T, h *head.Head, p plain) {
	t.Helper()
	mustHave(t, h, p)
	for _, m := range asked() {
		for _, c := range []struct {
			lo, hi int64
			upto   uint64
		}{{math.MinInt64, math.MaxInt64, math.MaxUint64}, {-1, 5, math.MaxUint64}, {math.MinInt64, math.MaxInt64, 2}, {0, 4, 3}, {5, 0, 9}} {
			mustQuery(t, h, p, m, c.lo, c.hi, c.upto)
		}
	}
}

// mustQuery asks Query, and what it is to answer.
func mustQuery(t *testing.T, h *head.Head, p plain, m []api.Matcher, lo, hi int64, upto uint64) int {
	t.Helper()
	got, err := h.Query(m, lo, hi, upto)
	want, wrong := p.query(m, lo, hi, upto)
	if err != wrong || !slices.EqualFunc(got, want, sameSeries) {
		t.Fatalf("Query of %v from %d to %d up to %d: %s, %d, want %s, %d", m, lo, hi, upto, short(got), err, short(want), wrong)
	}
	return len(got)
}

// mustRecord asks Record, and what it is to answer.
func mustRecord(t *testing.T, h *head.Head, p *plain, r api.Record) api.Errno {
	t.Helper()
	want := p.record(r)
	if err := h.Record(r); err != want {
		t.Fatalf("Record of %v: %d, want %d", r, err, want)
	}
	return want
}

// mustPlan asks Plan, and what it is to answer.
func mustPlan(t *testing.T, h *head.Head, p plain, seq uint64, l []api.Post) ([]api.Record, []api.Mark, api.Errno) {
	t.Helper()
	records, marks, err := h.Plan(seq, l)
	want, hits, wrong := p.plan(seq, l)
	if err != wrong || !slices.EqualFunc(records, want, record.Same) || !slices.Equal(marks, hits) {
		t.Fatalf("Plan of %d and %v: %v, %v, %d, want %v, %v, %d", seq, l, records, marks, err, want, hits, wrong)
	}
	return records, marks, err
}

// mustWrite plans and records a write.
func mustWrite(t *testing.T, h *head.Head, p *plain, seq uint64, l []api.Post) []api.Mark {
	t.Helper()
	records, marks, err := mustPlan(t, h, *p, seq, l)
	if err != api.OK {
		t.Fatalf("Plan of %d and %v: %d", seq, l, err)
	}
	for _, r := range records {
		if err := mustRecord(t, h, p, r); err != api.OK {
			t.Fatalf("Record of %v: %d", r, err)
		}
	}
	return marks
}
