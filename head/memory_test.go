package head_test

import (
	"math"
	"slices"
	"testing"

	"manometer/api"
	"manometer/head"
	"manometer/record"
	"manometer/sample"
)

// R4 and R5: what is handed in is neither kept nor changed, what is answered is memory of its own, and the same is answered each time.

var (
	spareLabel = api.Label{Name: "spare", Value: "spare"}
	sparePoint = pt(77, 77, 77)
	spareEntry = api.Entry{Ref: 77, Point: sparePoint}
)

// lent is l in memory with room behind it, in which stands spare.
func lent[E any](l []E, spare E) []E {
	whole := append(slices.Clone(l), spare, spare, spare)
	return whole[:len(l)]
}

// left tells whether what was lent is as it was, and what stands behind it, too.
func left[E comparable](got, want []E, spare E) bool {
	return slices.Equal(got[:len(got)+3], append(slices.Clone(want), spare, spare, spare))
}

// spoil writes all over what was lent or answered.
func spoil[E any](l []E, with E) {
	l = l[:cap(l)]
	for i := range l {
		l[i] = with
	}
}

func lentSeries(l []api.Series) []api.Series {
	m := slices.Clone(l)
	for i := range m {
		m[i].Labels, m[i].Points = lent(m[i].Labels, spareLabel), lent(m[i].Points, sparePoint)
	}
	return m
}

func spoilSeries(l []api.Series) {
	for _, s := range l {
		spoil(s.Labels, spareLabel)
		spoil(s.Points, sparePoint)
	}
	spoil(l, api.Series{Ref: 77})
}

func spoilRecords(l []api.Record) {
	for _, r := range l {
		spoil(r.Labels, spareLabel)
		spoil(r.Points, spareEntry)
	}
	spoil(l, api.Record{})
}

func TestOfKeepsNothing(t *testing.T) {
	d := sample.Draws(61)
	for range 200 {
		p, _ := plainOf(drawnSeries(d))
		l := lentSeries(p)
		h := headOf(t, l)
		then := p.clone()
		mustWrite(t, h, &then, 2, drawnPosts(d, 16)) // what it puts behind its points does not go behind those
		for i, s := range l {
			if !left(s.Labels, p[i].Labels, spareLabel) || !left(s.Points, p[i].Points, sparePoint) {
				t.Fatal("what was handed in is now", s, "was", p[i])
			}
		}
		h = headOf(t, l)
		spoilSeries(l)
		mustAnswer(t, h, p)
	}
}

func TestAnswersAreTheCallersOwn(t *testing.T) {
	d := sample.Draws(62)
	for range 100 {
		p, _ := plainOf(drawnSeries(d))
		h := headOf(t, p)
		for range 3 {
			mustWrite(t, h, &p, pick(d, seqs), drawnPosts(d, 9))
			again := h.All()
			spoilSeries(h.All())
			if !slices.EqualFunc(again, p.all(), sameSeries) {
				t.Fatal("two answers of All share memory")
			}
			for _, s := range p {
				got, _ := h.Get(s.Labels)
				same, _ := h.Get(s.Labels)
				spoil(got, sparePoint)
				if !slices.Equal(same, s.Points) {
					t.Fatal("two answers of Get share memory")
				}
			}
			for _, m := range asked() {
				asks := lent(m, api.Matcher{Kind: 77})
				got, _ := h.Query(asks, math.MinInt64, math.MaxInt64, math.MaxUint64)
				same, _ := h.Query(asks, math.MinInt64, math.MaxInt64, math.MaxUint64)
				if !left(asks, m, api.Matcher{Kind: 77}) {
					t.Fatal("Query has changed its matchers", asks, m)
				}
				spoilSeries(got)
				want, _ := p.query(m, math.MinInt64, math.MaxInt64, math.MaxUint64)
				if !slices.EqualFunc(same, want, sameSeries) {
					t.Fatal("two answers of Query share memory")
				}
			}
			mustAnswer(t, h, p)
		}
	}
}

func TestPlanKeepsNothing(t *testing.T) {
	d := sample.Draws(63)
	for range 300 {
		p, _ := plainOf(drawnSeries(d))
		h := headOf(t, p)
		l, seq := drawnPosts(d, 16), pick(d, seqs)
		lentPosts := lent(l, api.Post{})
		for i := range lentPosts {
			lentPosts[i].Labels = lent(l[i].Labels, spareLabel)
		}
		want, hits, _ := p.plan(seq, l)
		first, marks, _ := h.Plan(seq, lentPosts)
		second, others, _ := h.Plan(seq, lentPosts)
		for i := range l {
			if q := lentPosts[i]; q.At != l[i].At || q.T != l[i].T || q.V != l[i].V || !left(q.Labels, l[i].Labels, spareLabel) {
				t.Fatal("Plan has changed its posts", q, l[i])
			}
		}
		spoilRecords(first)
		spoil(marks, api.Mark{At: 77})
		for _, q := range lentPosts {
			spoil(q.Labels, spareLabel)
		}
		spoil(lentPosts, api.Post{})
		if !slices.EqualFunc(second, want, record.Same) || !slices.Equal(others, hits) {
			t.Fatalf("two answers of Plan share memory: %v, want %v", second, want)
		}
		mustAnswer(t, h, p)
	}
}

func TestRecordKeepsNothing(t *testing.T) {
	d := sample.Draws(64)
	for range 200 {
		h, p := head.New(), plain(nil)
		for range 6 {
			records, _, _ := p.plan(pick(d, seqs), drawnPosts(d, 9))
			for _, r := range records {
				asks := r
				asks.Labels, asks.Points = lent(r.Labels, spareLabel), lent(r.Points, spareEntry)
				if err := h.Record(asks); err != api.OK {
					t.Fatal("Record", err)
				}
				if !left(asks.Labels, r.Labels, spareLabel) || !left(asks.Points, r.Points, spareEntry) {
					t.Fatal("Record has changed", asks, r)
				}
				spoil(asks.Labels, spareLabel)
				spoil(asks.Points, spareEntry)
				p.record(r)
			}
			mustHave(t, h, p)
		}
		mustAnswer(t, h, p)
	}
}

func TestTheSameIsToldEachTime(t *testing.T) {
	d := sample.Draws(65)
	p, _ := plainOf(drawnSeries(d))
	l := drawnPosts(d, 16)
	for range 100 {
		h, q := headOf(t, p), p.clone()
		mustWrite(t, h, &q, 2, l)
		mustAnswer(t, h, q)
		mustAnswer(t, h.Clone(), q)
	}
}
