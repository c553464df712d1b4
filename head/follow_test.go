package head_test

import (
	"slices"
	"testing"

	"manometer/api"
	"manometer/head"
	"manometer/sample"
)

// write is a write of posts.
type write struct {
	seq uint64
	l   []api.Post
}

// drawnWrites are writes of which each has a number of its own, or some have one.
func drawnWrites(d *sample.Draw, count int, own bool) []write {
	var l []write
	for i := range count {
		seq := uint64(i + 1)
		if !own {
			seq = pick(d, seqs)
		}
		l = append(l, write{seq, drawnPosts(d, 6)})
	}
	return l
}

// written is the head behind these writes, one by one.
func written(t *testing.T, l []write) *head.Head {
	t.Helper()
	h := head.New()
	for _, w := range l {
		doWrite(t, h, w)
	}
	return h
}

// doWrite plans and records a write, and tells what was planned.
func doWrite(t *testing.T, h *head.Head, w write) planned {
	t.Helper()
	records, marks, err := h.Plan(w.seq, w.l)
	if err != api.OK {
		t.Fatal("Plan", err)
	}
	mustRecordAll(t, h, records)
	return planned{records, marks}
}

func mustRecordAll(t *testing.T, h *head.Head, l []api.Record) {
	t.Helper()
	for _, r := range l {
		if err := h.Record(r); err != api.OK {
			t.Fatalf("Record of %v: %d", r, err)
		}
	}
}

// known is all series in the order of their labels, without their numbers.
func known(h *head.Head) []api.Series {
	all := h.All()
	for i := range all {
		all[i].Ref = 0
	}
	slices.SortFunc(all, byLabels)
	return all
}

func mustBeSame(t *testing.T, a, b *head.Head, what string) {
	t.Helper()
	if x, y := a.All(), b.All(); !slices.EqualFunc(x, y, sameSeries) {
		t.Fatalf("%s: %v, want %v", what, x, y)
	}
}

// P14.5

// orders hands on all orders of l.
func orders(l []write, do func([]write)) {
	var next func(ahead, left []write)
	next = func(ahead, left []write) {
		for i := range left {
			next(append(ahead[:len(ahead):len(ahead)], left[i]), slices.Concat(left[:i], left[i+1:]))
		}
		if len(left) == 0 {
			do(ahead)
		}
	}
	next(nil, l)
}

func TestWritesInAllOrders(t *testing.T) {
	d := sample.Draws(51)
	for i := range 60 {
		l := drawnWrites(d, 4, i%2 == 0)
		want := known(written(t, l))
		orders(l, func(l []write) {
			if got := known(written(t, l)); !slices.EqualFunc(got, want, sameSeries) {
				t.Fatalf("behind %v: %v, want %v", l, got, want)
			}
		})
	}
}

func TestManyWritesInAnyOrder(t *testing.T) {
	d := sample.Draws(52)
	for i := range 100 {
		l := drawnWrites(d, 30, i%2 == 0)
		want := known(written(t, l))
		if len(want) < 5 {
			t.Fatal("there are few series", want)
		}
		for range 5 {
			mixed := shuffled(d, append(slices.Clone(l), l[:9]...)) // some twice
			if got := known(written(t, mixed)); !slices.EqualFunc(got, want, sameSeries) {
				t.Fatalf("behind %v: %v, want %v", mixed, got, want)
			}
		}
	}
}

// P14.6

// mustBeMarked asks that what was marked is there, and of what was not, another value, of a write that is not later.
func mustBeMarked(t *testing.T, h *head.Head, w write, marks []api.Mark) int {
	t.Helper()
	if len(marks) != len(w.l) {
		t.Fatalf("%d posts have %d marks", len(w.l), len(marks))
	}
	missed := 0
	for i, one := range w.l {
		p, _ := h.Get(one.Labels)
		at := slices.IndexFunc(p, func(q api.Point) bool { return q.T == one.T })
		if at < 0 || marks[i].At != one.At || p[at].Seq > w.seq || marks[i].Ok != (p[at].V == one.V) {
			t.Fatalf("the post %v of %d has the mark %v, and there is %v", one, w.seq, marks[i], p)
		}
		if !marks[i].Ok {
			missed++
		}
	}
	return missed
}

func TestWhatIsMarkedIsThere(t *testing.T) {
	d := sample.Draws(53)
	missed := 0
	for i := range 300 {
		h := head.New()
		for _, w := range shuffled(d, drawnWrites(d, 15, i%2 == 0)) {
			missed += mustBeMarked(t, h, w, doWrite(t, h, w).marks)
		}
	}
	if missed < 500 {
		t.Error("few posts were not marked", missed)
	}
}

// P14.7

func TestRecordsAgain(t *testing.T) {
	d := sample.Draws(54)
	for i := range 100 {
		h := head.New()
		var all []api.Record
		for _, w := range shuffled(d, drawnWrites(d, 12, i%2 == 0)) {
			all = append(all, doWrite(t, h, w).records...)
			was := h.Clone()
			mustRecordAll(t, h, all)
			mustBeSame(t, h, was, "behind records that were recorded")
		}
		for from := range all {
			was := h.Clone()
			mustRecordAll(t, h, all[from:])
			mustBeSame(t, h, was, "behind some records that were recorded")
		}
		other := head.New()
		mustRecordAll(t, other, all)
		mustBeSame(t, other, h, "another head behind the same records")
	}
}

// P14.8

func TestAHeadOfAllItsSeries(t *testing.T) {
	d := sample.Draws(55)
	for range 100 {
		p, _ := plainOf(drawnSeries(d))
		h := headOf(t, p)
		for range 4 {
			again := headOf(t, h.All())
			mustBeSame(t, again, h, "a head of all its series")
			mustAnswer(t, again, p)
			q := p.clone()
			seq, l := pick(d, seqs), drawnPosts(d, 9)
			mustWrite(t, h, &p, seq, l)
			mustWrite(t, again, &q, seq, l)
			mustBeSame(t, again, h, "a head of all its series, behind a write")
		}
	}
}
