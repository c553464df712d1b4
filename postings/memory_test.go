package postings_test

import (
	"slices"
	"testing"

	"manometer/api"
	"manometer/labels"
	"manometer/postings"
	"manometer/sample"
)

// P10.1 to P10.3 by R4: nothing that is handed in is kept or written, and what is answered is the caller's own. By R5: the same calls answer the same.

// lent is l in memory with room behind it, in which stands spare.
func lent[E any](l []E, spare E) []E {
	whole := append(slices.Clone(l), spare, spare, spare)
	return whole[:len(l)]
}

// mustBeLeft asks that what was lent is as it was, and what stands behind it, too.
func mustBeLeft[E comparable](t *testing.T, got, want []E, spare E, call string) {
	t.Helper()
	if whole := got[:len(got)+3]; !slices.Equal(got, want) || !slices.Equal(whole[len(got):], []E{spare, spare, spare}) {
		t.Fatalf("%s: what was handed in is now %v, was %v", call, whole, want)
	}
}

// spoil writes all over what was lent or answered.
func spoil[E any](l []E, with E) {
	l = l[:cap(l)]
	for i := range l {
		l[i] = with
	}
}

func TestAnIndexHasItsOwn(t *testing.T) {
	d := sample.Draws(31)
	p := somePlain(t, d)
	asked := someSelectors(d, 100)
	spare := api.Label{Name: "spare", Value: "spare"}
	x := postings.New()
	for _, s := range p {
		set := lent(s.set, spare)
		if err := x.Add(s.ref, set); err != api.OK {
			t.Fatal("Add", err)
		}
		mustBeLeft(t, set, s.set, spare, "Add")
		if ref, is := x.Ref(set); ref != s.ref || !is {
			t.Fatal("Ref", ref, is)
		}
		mustBeLeft(t, set, s.set, spare, "Ref")
		spoil(set, api.Label{Name: "a", Value: "spoilt"})
	}
	mustBe(t, x, p, asked...)
	c := x.Clone()
	for _, x := range []*postings.Index{x, c} {
		for _, s := range p {
			set, _ := x.Labels(s.ref)
			again, _ := x.Labels(s.ref)
			spoil(set, api.Label{Name: "a", Value: "spoilt"})
			if !labels.Same(again, s.set) {
				t.Fatal("two answers share memory", again, s.set)
			}
		}
		for _, name := range append(x.Names(), "none") {
			spoil(x.Values(name), "spoilt")
		}
		spoil(x.Names(), "spoilt")
		mustBe(t, x, p, asked...)
	}
}

func TestSelectIsTheCallersOwn(t *testing.T) {
	d := sample.Draws(32)
	p := somePlain(t, d)
	x := indexOf(t, p)
	asked := someSelectors(d, 200)
	for _, m := range someAsked() {
		asked = append(asked, list(m))
	}
	spare := eq("spare", "spare")
	for _, m := range asked {
		asks := lent(m, spare)
		first, _ := x.Select(asks)
		mustBeLeft(t, asks, m, spare, "Select")
		second, _ := x.Select(asks)
		want, _ := p.selected(m)
		spoil(first, 99)
		spoil(asks, spare)
		if !slices.Equal(second, want) {
			t.Fatalf("two answers of Select of %s share memory: %v, want %v", show(m), second, want)
		}
	}
	mustBe(t, x, p, asked...)
}

func TestNumbersAreTheCallersOwn(t *testing.T) {
	d := sample.Draws(33)
	lists := [][]uint64{nil, nums(5), nums(1, 2, 3), nums(3, 2, 1), nums(2, 2, 2), nums(7, 8)}
	for range 40 {
		var l []uint64
		for range d.Below(9) {
			l = append(l, uint64(d.Below(9)))
		}
		lists = append(lists, l, slices.Sorted(slices.Values(l)))
	}
	for name, call := range map[string]func(a, b []uint64) []uint64{"And": postings.And, "Or": postings.Or, "Less": postings.Less} {
		for _, a := range lists {
			for _, b := range lists {
				x, y := lent(a, 77), lent(b, 77)
				first, second := call(x, y), call(x, y)
				want := slices.Clone(first)
				spoil(first, 99)
				mustBeLeft(t, x, a, 77, name)
				mustBeLeft(t, y, b, 77, name)
				spoil(x, 98)
				spoil(y, 97)
				if !slices.Equal(second, want) {
					t.Fatalf("%s of %v and %v shares memory", name, a, b)
				}
			}
			x := lent(a, 77)
			call(x, x) // one list twice
			call(x[:len(x)/2], x)
			mustBeLeft(t, x, a, 77, name)
		}
	}
}

func TestTheSameIsToldEachTime(t *testing.T) {
	d := sample.Draws(34)
	p := somePlain(t, d)
	asked := someSelectors(d, 20)
	for range 50 {
		x := indexOf(t, p)
		mustBe(t, x, p, asked...)
		mustBe(t, x.Clone(), p, asked...)
	}
}
