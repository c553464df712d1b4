package head_test

import (
	"slices"
	"testing"

	"manometer/api"
	"manometer/head"
	"manometer/sample"
)

// P14.2

// someRecords are a few records that often meet, right ones and wrong ones.
func someRecords() []api.Record {
	a, b := of("a", "x"), of("b", "x")
	return []api.Record{
		begun(1, a), begun(1, b), begun(2, a), begun(2, b), begun(3, nil),
		came(entry(1, 5, 7, 2)), came(entry(1, 5, 7, 1)), came(entry(1, 5, 8, 2)), came(entry(1, 5, 6, 2), entry(2, 5, 9, 1)), came(entry(2, 4, 7, 3), entry(1, 9, 9, 9), entry(2, 4, 7, 2), entry(1, -1, 0, 1)), came(entry(3, 0, 0, 1)),
		{}, begun(0, a), begun(1, of("a", "")), came(), came(entry(0, 5, 7, 1)), came(entry(1, 5, 7, 0)),
	}
}

func TestAllShortRowsOfRecords(t *testing.T) {
	some := someRecords()
	told := map[api.Errno]int{}
	var rows func(h *head.Head, p plain, left int)
	rows = func(h *head.Head, p plain, left int) {
		for _, r := range some {
			next, then := h.Clone(), p.clone()
			told[mustRecord(t, next, &then, r)]++
			mustHave(t, next, then)
			if left > 1 {
				rows(next, then, left-1)
			}
		}
	}
	rows(head.New(), nil, 4)
	for _, err := range []api.Errno{api.OK, api.ErrThere, api.ErrRef, api.ErrRecord, api.ErrArg, api.ErrValue} {
		if told[err] < 100 {
			t.Error("few records were", err, told)
		}
	}
}

func TestDrawnRecords(t *testing.T) {
	d := sample.Draws(43)
	for range 300 {
		p, _ := plainOf(drawnSeries(d))
		h := headOf(t, p)
		for range 20 {
			r := begun(uint32(d.Below(12)), pick(d, sets()))
			if d.Below(3) > 0 {
				r = api.Record{Kind: api.RcPoints}
				for range d.Below(9) {
					r.Points = append(r.Points, entry(pick(d, p.refs()), drawnTime(d), pick(d, values), pick(d, seqs)))
				}
			}
			mustRecord(t, h, &p, r)
			mustHave(t, h, p)
		}
		mustAnswer(t, h, p)
	}
}

// refs are the numbers of the series, often, and one that none has.
func (p plain) refs() []uint32 {
	l := []uint32{99}
	for _, s := range p {
		l = append(l, s.Ref, s.Ref, s.Ref, s.Ref, s.Ref)
	}
	return l
}

// mustRefuse asks that a record is refused and changes nothing.
func mustRefuse(t *testing.T, h *head.Head, p plain, r api.Record, want api.Errno) {
	t.Helper()
	if err := mustRecord(t, h, &p, r); err != want {
		t.Errorf("Record of a %d of %d points: %d, want %d", r.Kind, len(r.Points), err, want)
	}
	mustHave(t, h, p)
}

func TestWrongRecords(t *testing.T) {
	a, b := of("a", "x"), of("b", "x")
	p := plain{ser(1, a, pt(5, 7, 2)), ser(4, b)}
	h := headOf(t, p)
	right := entry(1, 6, 7, 1)
	for want, l := range map[api.Errno][]api.Record{
		api.ErrRecord: {{}, {Kind: 3, Ref: 9, Labels: a}, {Kind: -1}, {Kind: 258, Points: []api.Entry{right}}},
		api.ErrArg:    {begun(0, of("c", "x")), begun(0, a), {Kind: api.RcSeries, Ref: 1, Labels: a, Points: []api.Entry{right}}, came(), came(entry(9, 5, 7, 1), entry(0, 5, 7, 1)), came(right, entry(1, 5, 7, 0)), {Kind: api.RcPoints, Ref: 1, Points: []api.Entry{right}}, {Kind: api.RcPoints, Labels: a, Points: []api.Entry{right}}},
		api.ErrValue:  {begun(1, of("a", "")), begun(9, of("a", ""))},
		api.ErrOrder:  {begun(1, of("b", "x", "a", "x"))},
		api.ErrLong:   {came(make([]api.Entry, 257)...)},
		api.ErrThere:  {begun(1, b), begun(4, a), begun(1, of("c", "x")), begun(9, a), begun(2, b), begun(1, nil)},
		api.ErrRef:    {came(entry(2, 5, 7, 1)), came(right, entry(9, 5, 7, 1)), came(entry(1<<32-1, 5, 7, 1), right), came(entry(3, 5, 7, 1), entry(5, 5, 7, 1))},
	} {
		for _, r := range l {
			mustRefuse(t, h, p, r, want)
		}
	}
	for _, r := range []api.Record{begun(1, a), begun(4, b)} { // these are there
		mustRefuse(t, h, p, r, api.OK)
	}
}

func TestPointsThatMeet(t *testing.T) {
	was := list(pt(3, 1, 4), pt(5, 7, 2), pt(8, 1, 4))
	for _, c := range []struct{ p, want api.Point }{
		{pt(5, 7, 2), pt(5, 7, 2)}, {pt(5, 7, 1), pt(5, 7, 1)}, {pt(5, 7, 3), pt(5, 7, 2)},
		{pt(5, 9, 1), pt(5, 9, 1)}, {pt(5, 6, 1), pt(5, 6, 1)}, {pt(5, 6, 2), pt(5, 6, 2)}, {pt(5, 8, 2), pt(5, 7, 2)}, {pt(5, 6, 3), pt(5, 7, 2)},
		{pt(5, high, 2), pt(5, 7, 2)}, {pt(5, 7, high), pt(5, 7, 2)}, {pt(5, 0, 2), pt(5, 0, 2)},
	} {
		h := headOf(t, []api.Series{ser(1, of("a", "x"), was...)})
		if err := h.Record(came(entry(1, c.p.T, c.p.V, c.p.Seq))); err != api.OK {
			t.Fatal("Record", err)
		}
		if got, _ := h.Get(of("a", "x")); !slices.Equal(got, list(was[0], c.want, was[2])) {
			t.Errorf("behind %v: %v, want %v", c.p, got, c.want)
		}
	}
}

func TestRecordsOfAFullHead(t *testing.T) {
	p := plain(wide(api.MaxSeries - 1))
	h := headOf(t, p)
	if err := mustRecord(t, h, &p, begun(2, of("last", "x"))); err != api.OK {
		t.Fatal("Record", err)
	}
	for _, r := range []api.Record{begun(4, of("more", "x")), begun(1<<32-1, nil)} {
		mustRefuse(t, h, p, r, api.ErrFull)
	}
	mustRefuse(t, h, p, begun(2, of("more", "x")), api.ErrThere)
	mustRefuse(t, h, p, begun(4, of("last", "x")), api.ErrThere)
	mustRefuse(t, h, p, begun(2, of("last", "x")), api.OK)
	if err := mustRecord(t, h, &p, came(entry(2, 5, 7, 1), entry(1, 5, 7, 1))); err != api.OK {
		t.Fatal("Record", err)
	}
	mustHave(t, h, p)
}

func TestRecordsOfFullLists(t *testing.T) {
	a, b := of("a", "x"), of("b", "x")
	p := plain{ser(1, a, many(api.MaxPoints-2)...), ser(2, b)}
	h := headOf(t, p)
	x, y, z := entry(1, 1, 7, 9), entry(1, 3, 7, 9), entry(1, 5, 7, 9)
	same, other := entry(1, 0, 7, 5), entry(2, 5, 7, 1)
	mustRefuse(t, h, p, came(x, y, z), api.ErrFull)
	mustRefuse(t, h, p, came(other, x, other, y, other, z), api.ErrFull)
	mustRefuse(t, h, p, came(same, same, same), api.ErrFull) // also where none of them is a new one
	mustRefuse(t, h, p, came(x, y, z, entry(9, 5, 7, 1)), api.ErrRef)
	mustRefuse(t, h, p, came(entry(9, 5, 7, 1), x, y, z), api.ErrRef)
	for _, r := range []api.Record{came(same, entry(1, 2, 6, 1)), came(other, other, other, same), came(y, other, x)} {
		if err := mustRecord(t, h, &p, r); err != api.OK {
			t.Fatal("Record", r, err)
		}
		mustHave(t, h, p)
	}
	mustRefuse(t, h, p, came(same), api.ErrFull)
	mustRefuse(t, h, p, came(z), api.ErrFull)
	mustRefuse(t, h, p, came(other, x), api.ErrFull)
	if err := mustRecord(t, h, &p, came(other)); err != api.OK {
		t.Fatal("Record", err)
	}
}

// A list that records fill from nothing, at the ends and in the midst.
func TestRecordsFillAList(t *testing.T) {
	a := of("a", "x")
	h := headOf(t, []api.Series{ser(1, a)})
	full := many(api.MaxPoints)
	for from := 0; from < len(full); from += 256 {
		r := api.Record{Kind: api.RcPoints}
		for i := range 256 {
			r.Points = append(r.Points, api.Entry{Ref: 1, Point: full[(from+i)*40503%api.MaxPoints]})
		}
		if err := h.Record(r); err != api.OK {
			t.Fatal("Record", err)
		}
	}
	mustHave(t, h, plain{ser(1, a, full...)})
	if err := h.Record(came(entry(1, 0, 7, 5))); err != api.ErrFull {
		t.Error("Record", err)
	}
}
