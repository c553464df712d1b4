package block_test

import (
	"slices"
	"testing"

	"manometer/api"
	"manometer/block"
	"manometer/sample"
)

// R4 and R5: what is handed in is neither kept nor changed, what is answered is memory of its own, and the same is answered each time.

var (
	spareLabel = api.Label{Name: "spare", Value: "spare"}
	sparePoint = pt(77, 77, 77)
)

// lent is l in memory with room behind it, in which stands spare.
func lent[E any](l []E, spare E) []E {
	whole := append(slices.Clone(l), spare, spare, spare)
	return whole[:len(l)]
}

// left tells whether what was lent is as it was, and what stands behind it, too.
func left[E comparable](got, want []E, spare E) bool {
	return slices.Equal(got[:len(got)+3], append(slices.Clone(want), spare, spare, spare))
}

// spoil writes all over what was lent or answered.
func spoil[E any](l []E, with E) {
	l = l[:cap(l)]
	for i := range l {
		l[i] = with
	}
}

func lentSeries(l []api.Series) []api.Series {
	m := lent(l, ser(77, nil))
	for i := range m {
		m[i].Labels, m[i].Points = lent(m[i].Labels, spareLabel), lent(m[i].Points, sparePoint)
	}
	return m
}

// mustBeLeft asks whether series that were lent are as they were.
func mustBeLeft(t *testing.T, got, want []api.Series) {
	t.Helper()
	if !plainSame(got[:len(got)+3], append(clone(want), ser(77, nil), ser(77, nil), ser(77, nil))) {
		t.Fatalf("what was handed in is now %s, was %s", short(got), short(want))
	}
	for i, one := range got {
		if !left(one.Labels, want[i].Labels, spareLabel) || !left(one.Points, want[i].Points, sparePoint) {
			t.Fatalf("what was handed in is now %s, was %s", short(one), short(want[i]))
		}
	}
}

func TestSeriesThatAreHandedInAreLeft(t *testing.T) {
	d := sample.Draws(79)
	for range 1000 {
		was := drawn(d, 130)
		if d.Below(2) == 0 {
			was = spoilt(d, was)
		}
		l := lentSeries(was)
		block.Right(l)
		first, err := block.Put(l)
		block.Count(l)
		block.Same(l, l)
		mustBeLeft(t, l, was)
		second, again := block.Put(l)
		if err != again || !slices.Equal(first, second) {
			t.Fatalf("Put of %s twice: %d and %d", short(l), err, again)
		}
		if err != api.OK {
			continue
		}
		spoil(first, 77)
		third, _ := block.Put(l)
		if !slices.Equal(second, third) {
			t.Fatalf("Put of %s: its bytes are shared", short(l))
		}
		mustBeLeft(t, l, was)
	}
}

func TestBytesThatAreHandedInAreLeft(t *testing.T) {
	d := sample.Draws(80)
	for range 1000 {
		was := plainBytes(drawn(d, 130))
		if d.Below(2) == 0 {
			was = turned(d, was)
		}
		was = sealed(was)
		b := lent(was, 77)
		l, err := block.Take(b)
		if !left(b, was, 77) {
			t.Fatalf("the bytes %q are now %q", was, b)
		}
		spoil(b, 78)
		if want, wrong := plainTake(was); err != wrong || !plainSame(l, want) {
			t.Fatalf("Take of %q: %s, %d", was, short(l), err)
		}
	}
}

func TestSeriesThatAreAnsweredAreTheCallersOwn(t *testing.T) {
	d := sample.Draws(81)
	for range 500 {
		was := drawn(d, 130)
		b := mustBack(t, was)
		l, _ := block.Take(b)
		other, _ := block.Take(b)
		for i := range l { // one list after the other: each one is apart from those behind it
			spoil(l[i].Labels, spareLabel)
			if !slices.Equal(l[i].Points, was[i].Points) {
				t.Fatalf("the labels and the points of %s share memory", short(was[i]))
			}
			spoil(l[i].Points, sparePoint)
			if !plainSame(l[i+1:], was[i+1:]) {
				t.Fatalf("the lists of %s share memory", short(was))
			}
		}
		spoil(l, ser(77, nil))
		if !plainSame(other, was) {
			t.Fatalf("two answers of %s share memory", short(was))
		}
		mustTake(t, b)
	}
}
