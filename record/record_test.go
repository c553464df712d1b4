package record_test

import (
	"slices"
	"testing"

	"manometer/api"
	"manometer/record"
)

func TestLimitsAndErrors(t *testing.T) {
	if api.MaxEntries != 256 || api.RcSeries != 1 || api.RcPoints != 2 || api.ErrRecord != 130 {
		t.Error("a number of the package api is another one")
	}
}

// P13.1

func TestCheckOfRecordsThatMayBe(t *testing.T) {
	for _, r := range rights() {
		if err := record.Check(r); err != api.OK || plainCheck(r) != api.OK {
			t.Fatalf("Check of %v: %d", r, err)
		}
	}
	for _, r := range []api.Record{ // nil and empty lists are the same
		{Kind: api.RcSeries, Ref: 1, Labels: api.Labels{}, Points: []api.Entry{}},
		{Kind: api.RcPoints, Labels: api.Labels{}, Points: many(1)},
	} {
		if err := record.Check(r); err != api.OK {
			t.Errorf("Check of %v: %d", r, err)
		}
	}
}

func TestCheckOfRecordsThatMayNotBe(t *testing.T) {
	for _, c := range wrongs() {
		if plainCheck(c.r) != c.want {
			t.Error("what is asked is amiss", c)
		}
		if err := record.Check(c.r); err != c.want {
			t.Errorf("Check of %v: %d, want %d", c.r, err, c.want)
		}
	}
}

func TestCheckOfAllParts(t *testing.T) {
	told := map[api.Errno]int{}
	for kind := -2; kind < 6; kind++ {
		for _, ref := range []uint32{0, 1, 2, 1<<32 - 1} {
			for _, l := range []api.Labels{nil, of("a", "x"), of("a", ""), of("", ""), wide(16), wide(17), of("b", "x", "a", "x")} {
				for _, p := range [][]api.Entry{nil, many(1), many(256), many(257), {at(0, 1, 1, 1)}, {at(1, 1, 1, 0)}, append(many(256), at(0, 0, 0, 0))} {
					r := api.Record{Kind: kind, Ref: ref, Labels: l, Points: p}
					want := plainCheck(r)
					told[want]++
					if err := record.Check(r); err != want {
						t.Fatalf("Check of %v: %d, want %d", r, err, want)
					}
				}
			}
		}
	}
	if len(told) != 7 {
		t.Error("what was asked tells little", told)
	}
}

// asked are records, such as may be or not, among which many differ in one thing.
func asked() []api.Record {
	l := append(rights()[:12:12], drawn(10)...)
	for _, c := range wrongs() {
		l = append(l, c.r)
	}
	for _, r := range slices.Clone(l) {
		other := r
		other.Kind++
		more := r
		more.Ref++
		l = append(l, other, more)
		for i := range min(len(r.Labels), 2) {
			one := r
			one.Labels = slices.Clone(r.Labels)
			one.Labels[i].Value += "!"
			two := r
			two.Labels = slices.Clone(r.Labels)
			two.Labels[i].Name += "!"
			less := r
			less.Labels = r.Labels[:i]
			l = append(l, one, two, less)
		}
		for i := range min(len(r.Points), 2) {
			for _, change := range []func(*api.Entry){
				func(e *api.Entry) { e.Ref++ }, func(e *api.Entry) { e.Point.T++ }, func(e *api.Entry) { e.Point.V ^= 1 << 63 }, func(e *api.Entry) { e.Point.Seq++ },
			} {
				one := r
				one.Points = slices.Clone(r.Points)
				change(&one.Points[len(r.Points)-1-i])
				l = append(l, one)
			}
			less := r
			less.Points = r.Points[:i]
			l = append(l, less)
		}
	}
	return l
}

func TestSame(t *testing.T) {
	told := map[bool]int{}
	l := asked()
	for _, a := range l {
		for _, b := range l {
			want := plainSame(a, b)
			told[want]++
			if got := record.Same(a, b); got != want {
				t.Fatalf("Same of %v and %v: %v", a, b, got)
			}
		}
		if !record.Same(a, a) {
			t.Errorf("%v isn't the same as itself", a)
		}
	}
	if told[true] < len(l) || told[false] < 10000 {
		t.Error("what was asked tells little", told)
	}
	if !record.Same(api.Record{Labels: api.Labels{}, Points: []api.Entry{}}, api.Record{}) {
		t.Error("lists that are nil and empty are told apart")
	}
}
