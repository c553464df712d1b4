package head_test

import (
	"math"
	"slices"
	"testing"

	"manometer/api"
	"manometer/head"
	"manometer/record"
	"manometer/sample"
)

// P14.3

// planned is what Plan tells.
type planned struct {
	records []api.Record
	marks   []api.Mark
}

func yes(at int) api.Mark { return api.Mark{At: at, Ok: true} }
func no(at int) api.Mark  { return api.Mark{At: at} }

func marks(l ...api.Mark) []api.Mark { return l }

func TestPlansOfSome(t *testing.T) {
	a, b, c := of("a", "x"), of("b", "x"), of("c", "x")
	p := plain{ser(2, b, pt(5, 7, 4)), ser(6, a, pt(5, 7, 4), pt(6, 0, 2))}
	h := headOf(t, p)
	for _, x := range []struct {
		seq  uint64
		l    []api.Post
		want planned
	}{
		{4, nil, planned{}},
		{4, []api.Post{post(3, b, 6, 1)}, planned{[]api.Record{came(entry(2, 6, 1, 4))}, marks(yes(3))}},
		{4, []api.Post{post(-3, c, 6, 1)}, planned{[]api.Record{begun(7, c), came(entry(7, 6, 1, 4))}, marks(yes(-3))}},
		{high, []api.Post{post(1, nil, 6, 0), post(1, c, 6, 0), post(1, nil, 7, 0)}, planned{[]api.Record{begun(7, nil), begun(8, c), came(entry(7, 6, 0, high), entry(8, 6, 0, high), entry(7, 7, 0, high))}, marks(yes(1), yes(1), yes(1))}},
		// what stands at a time already, by a write of the same number, of a lesser one, and of a greater one
		{4, []api.Post{post(1, a, 5, 7), post(2, a, 5, 8)}, planned{nil, marks(yes(1), no(2))}},
		{5, []api.Post{post(1, a, 5, 7), post(2, a, 5, 6)}, planned{nil, marks(yes(1), no(2))}},
		{3, []api.Post{post(1, a, 5, 7)}, planned{[]api.Record{came(entry(6, 5, 7, 3))}, marks(yes(1))}},
		{3, []api.Post{post(1, a, 5, 9), post(2, a, 5, 7)}, planned{[]api.Record{came(entry(6, 5, 9, 3), entry(6, 5, 7, 3))}, marks(no(1), yes(2))}},
		{3, []api.Post{post(1, a, 5, 7), post(2, a, 5, 9)}, planned{[]api.Record{came(entry(6, 5, 7, 3))}, marks(yes(1), no(2))}},
		{4, []api.Post{post(1, a, 5, 6)}, planned{[]api.Record{came(entry(6, 5, 6, 4))}, marks(yes(1))}},
		{4, []api.Post{post(1, a, 5, 7), post(2, a, 5, 6)}, planned{[]api.Record{came(entry(6, 5, 6, 4))}, marks(no(1), yes(2))}},
		// of one write, at one time
		{9, []api.Post{post(1, c, 5, 3), post(2, c, 5, 2), post(3, c, 5, 2), post(4, c, 5, 4)}, planned{[]api.Record{begun(7, c), came(entry(7, 5, 3, 9), entry(7, 5, 2, 9))}, marks(no(1), yes(2), yes(3), no(4))}},
		{9, []api.Post{post(1, c, 5, 3), post(2, b, 5, 3), post(3, c, 6, 3)}, planned{[]api.Record{begun(7, c), came(entry(7, 5, 3, 9), entry(7, 6, 3, 9))}, marks(yes(1), no(2), yes(3))}},
	} {
		records, told, err := h.Plan(x.seq, x.l)
		if err != api.OK || !slices.EqualFunc(records, x.want.records, record.Same) || !slices.Equal(told, x.want.marks) {
			t.Errorf("Plan of %d and %v: %v, %v, %d, want %v", x.seq, x.l, records, told, err, x.want)
		}
		mustPlan(t, h, p, x.seq, x.l)
		mustAnswer(t, h, p)
	}
}

// The chapter's example.
func TestPlanOfANewHead(t *testing.T) {
	h, p := head.New(), plain(nil)
	a := of("a", "x")
	records, told, err := h.Plan(1, []api.Post{post(0, a, 5, 0)})
	if err != api.OK || !slices.EqualFunc(records, []api.Record{begun(1, a), came(entry(1, 5, 0, 1))}, record.Same) || !slices.Equal(told, marks(yes(0))) {
		t.Fatal("Plan", records, told, err)
	}
	mustHave(t, h, p)
	for _, r := range records {
		mustRecord(t, h, &p, r)
	}
	if l, is := h.Get(a); !is || !slices.Equal(l, list(pt(5, 0, 1))) {
		t.Error("Get", l, is)
	}
}

// mustNotPlan asks that a write is refused.
func mustNotPlan(t *testing.T, h *head.Head, p plain, seq uint64, l []api.Post, want api.Errno) {
	t.Helper()
	records, told, err := mustPlan(t, h, p, seq, l)
	if err != want || records != nil || told != nil {
		t.Errorf("Plan of %d and %d posts: %v, %v, %d, want %d", seq, len(l), records, told, err, want)
	}
}

func TestWrongPlans(t *testing.T) {
	p := plain{ser(1<<32-1, of("a", "x"), many(api.MaxPoints)...)}
	h := headOf(t, p)
	bad, other := post(0, of("a", ""), 5, 7), post(0, of("1", "x"), 5, 7)
	full, more := post(0, of("a", "x"), 5, 7), post(0, of("b", "x"), 5, 7)
	mustNotPlan(t, h, p, 0, make([]api.Post, 17), api.ErrLong)
	mustNotPlan(t, h, p, 1, slices.Repeat([]api.Post{bad}, 17), api.ErrLong)
	mustNotPlan(t, h, p, 1, slices.Repeat([]api.Post{bad}, 1000), api.ErrLong)
	mustNotPlan(t, h, p, 0, nil, api.ErrArg)
	mustNotPlan(t, h, p, 0, []api.Post{bad}, api.ErrArg)
	mustNotPlan(t, h, p, 0, []api.Post{full}, api.ErrArg)
	mustNotPlan(t, h, p, 1, []api.Post{bad, other}, api.ErrValue)
	mustNotPlan(t, h, p, 1, []api.Post{other, bad}, api.ErrName)
	mustNotPlan(t, h, p, 1, []api.Post{full, more, bad}, api.ErrValue)
	mustNotPlan(t, h, p, 1, append(slices.Repeat([]api.Post{full}, 15), other), api.ErrName)
	mustNotPlan(t, h, p, 1, []api.Post{post(0, of("b", "x", "a", "x"), 5, 7)}, api.ErrOrder)
	mustNotPlan(t, h, p, 1, []api.Post{post(0, make(api.Labels, 17), 5, 7)}, api.ErrLong)
	mustNotPlan(t, h, p, 1, []api.Post{full}, api.ErrFull)
	mustNotPlan(t, h, p, 1, []api.Post{more}, api.ErrFull)
	mustHave(t, h, p)
}

// Of sixteen posts all may be of one series, or each of another one.
func TestPlansOfSixteen(t *testing.T) {
	var one, each []api.Post
	for i := range 16 {
		one = append(one, post(i, of("a", "x"), int64(i), 7))
		each = append(each, post(i, wide(16)[15-i].Labels, 5, 7))
	}
	for _, l := range [][]api.Post{one, each} {
		h, p := head.New(), plain(nil)
		for _, m := range mustWrite(t, h, &p, 3, l) {
			if !m.Ok {
				t.Error(m)
			}
		}
		mustAnswer(t, h, p)
		if r, _, _ := h.Plan(3, l); r != nil {
			t.Error("a write that was recorded has records", r)
		}
	}
}

func TestPlansOfTheGreatestRef(t *testing.T) {
	a, b, c := of("a", "x"), of("b", "x"), of("c", "x")
	p := plain{ser(1<<32-2, a)}
	h := headOf(t, p)
	mustNotPlan(t, h, p, 1, []api.Post{post(0, b, 5, 7), post(0, c, 5, 7)}, api.ErrFull)
	mustNotPlan(t, h, p, 1, []api.Post{post(0, b, 5, 7), post(0, a, 5, 7), post(0, b, 5, 7), post(0, nil, 5, 7)}, api.ErrFull)
	mustWrite(t, h, &p, 1, []api.Post{post(0, b, 5, 7), post(0, a, 5, 7), post(0, b, 6, 7)})
	mustHave(t, h, p)
	mustNotPlan(t, h, p, 1, []api.Post{post(0, c, 5, 7)}, api.ErrFull)
	mustWrite(t, h, &p, 2, []api.Post{post(0, b, 9, 7), post(0, a, 9, 7)})
	mustHave(t, h, p)
}

// The next number is above the greatest one, in whatever order the others came.
func TestNextRef(t *testing.T) {
	h, p := head.New(), plain(nil)
	for i, ref := range []uint32{5, 900, 3, 1, 800} {
		mustRecord(t, h, &p, begun(ref, wide(5)[i].Labels))
		mustPlan(t, h, p, 1, []api.Post{post(0, of("a", "x"), 5, 7), post(0, of("b", "x"), 5, 7)})
		mustPlan(t, h.Clone(), p, 1, []api.Post{post(0, of("a", "x"), 5, 7)})
		mustPlan(t, headOf(t, h.All()), p, 1, []api.Post{post(0, of("a", "x"), 5, 7)})
	}
	if r, _, _ := h.Plan(1, []api.Post{post(0, nil, 5, 7)}); len(r) != 2 || r[0].Ref != 901 {
		t.Error("Plan", r)
	}
}

func TestPlansOfAFullHead(t *testing.T) {
	p := plain(wide(api.MaxSeries - 2))
	h := headOf(t, p)
	there, x, y, z := post(0, p[7].Labels, 5, 7), post(1, of("x", "x"), 5, 7), post(2, of("y", "x"), 5, 7), post(3, of("z", "x"), 5, 7)
	mustNotPlan(t, h, p, 1, []api.Post{x, y, z}, api.ErrFull)
	mustNotPlan(t, h, p, 1, []api.Post{x, there, y, x, z}, api.ErrFull)
	mustWrite(t, h, &p, 1, []api.Post{x, x, there, y, x, y})
	mustNotPlan(t, h, p, 1, []api.Post{z}, api.ErrFull)
	mustNotPlan(t, h, p, 1, []api.Post{there, z}, api.ErrFull)
	mustWrite(t, h, &p, 2, []api.Post{there, x, y})
	mustHave(t, h, p)
}

func TestPlansOfFullLists(t *testing.T) {
	a, b := of("a", "x"), of("b", "x")
	p := plain{ser(1, a, many(api.MaxPoints-2)...), ser(2, b)}
	h := headOf(t, p)
	same, new1, new2, new3, other := post(0, a, 0, 7), post(0, a, 1, 7), post(0, a, 3, 7), post(0, a, 5, 7), post(0, b, 5, 7)
	mustNotPlan(t, h, p, 9, []api.Post{new1, new2, new3}, api.ErrFull)
	mustNotPlan(t, h, p, 9, []api.Post{new1, other, new1, other, new1}, api.ErrFull)
	mustNotPlan(t, h, p, 9, []api.Post{same, same, same}, api.ErrFull) // also where none of them is a new one
	mustPlan(t, h, p, 9, []api.Post{same, same, other, other, other})
	mustWrite(t, h, &p, 9, []api.Post{new1, other, new2})
	mustNotPlan(t, h, p, 9, []api.Post{same}, api.ErrFull)
	mustNotPlan(t, h, p, 9, []api.Post{other, new1}, api.ErrFull)
	mustWrite(t, h, &p, 9, []api.Post{other})
	mustHave(t, h, p)
}

func TestDrawnPlans(t *testing.T) {
	d := sample.Draws(44)
	hits, misses, changes := 0, 0, 0
	for range 400 {
		p, _ := plainOf(drawnSeries(d))
		h := headOf(t, p)
		for range 12 {
			l, seq := drawnPosts(d, 16), pick(d, seqs)
			records, told, err := mustPlan(t, h, p, seq, l)
			mustHave(t, h, p)
			for _, m := range told {
				if m.Ok {
					hits++
				} else {
					misses++
				}
			}
			changes += len(records)
			for _, r := range records {
				if err := record.Check(r); err != api.OK {
					t.Fatal("what is planned is no record", r, err)
				}
			}
			if err == api.OK && d.Below(2) == 0 {
				mustWrite(t, h, &p, seq, l)
			}
		}
		mustAnswer(t, h, p)
	}
	if min(hits, misses, changes) < 1000 {
		t.Error("what was planned tells little", hits, misses, changes)
	}
}

// Of one time, of a point that stands there and three posts, all that may meet.
func TestAllThatMeetAtATime(t *testing.T) {
	a := of("a", "x")
	few := []uint64{7, 8, high}
	for _, was := range []api.Point{{}, pt(5, 7, 2), pt(5, 8, 2), pt(5, high, 2), pt(5, 8, 1), pt(5, 8, 3), pt(5, 8, high)} {
		p := plain{ser(1, a, was)}
		if was.Seq == 0 {
			p = nil
		}
		h := headOf(t, p)
		for _, x := range few {
			for _, y := range few {
				for _, z := range few {
					for _, seq := range []uint64{1, 2, 3, math.MaxUint64} {
						mustPlan(t, h, p, seq, []api.Post{post(0, a, 5, x), post(1, a, 5, y), post(2, a, 5, z)})
						then, q := h.Clone(), p.clone()
						mustWrite(t, then, &q, seq, []api.Post{post(0, a, 5, x), post(1, a, 6, y), post(2, a, 5, z)})
						mustHave(t, then, q)
					}
				}
			}
		}
	}
}
