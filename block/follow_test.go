package block_test

import (
	"slices"
	"testing"

	"manometer/api"
	"manometer/block"
	"manometer/sample"
)

// P15.4

func TestThereAndBack(t *testing.T) {
	d := sample.Draws(76)
	for i := range 1500 {
		mustBack(t, drawn(d, 5+i%140))
	}
}

func TestTakenBytesAreThose(t *testing.T) {
	d := sample.Draws(77)
	taken := 0
	for range 12000 {
		was := drawn(d, 4)
		b := sealed(turned(d, plainBytes(was)))
		l, err := block.Take(b)
		if err != api.OK {
			continue
		}
		if got, err := block.Put(l); err != api.OK || !slices.Equal(got, b) {
			t.Fatalf("the series of %q have the bytes %q, %d", b, got, err)
		}
		if !block.Same(l, was) {
			taken++
		}
	}
	if taken < 300 {
		t.Error("what was asked tells little", taken)
	}
}

// P15.5

func TestSpoiltBytes(t *testing.T) {
	d := sample.Draws(78)
	l := list(ser(2, of("a", "x"), pt(5, 7, 1), pt(6, 7, 1), pt(9, high, 3)), ser(5, nil, wild(d, 3)...))
	whole := mustBack(t, l)
	for i := range whole {
		for x := range 255 {
			b := slices.Clone(whole)
			b[i] += byte(1 + x)
			want := api.ErrSum
			if i < 4 {
				want = api.ErrForm
			}
			mustSpoil(t, b, want)
		}
	}
	for range 200 {
		whole := mustBack(t, drawn(d, 200))
		b := slices.Clone(whole)
		b[d.Below(len(b))] ^= byte(1 + d.Below(255))
		if l, err := block.Take(b); err == api.OK || len(l) > 0 {
			t.Fatalf("%s is taken, of which a byte is another one", short(b))
		}
	}
}

// P15.6

func TestFewBytes(t *testing.T) {
	size := func(p []api.Point) int { return len(mustBack(t, list(ser(1, of("a", "x"), p...)))) }
	none := size(nil)
	for _, n := range []int{120, 240, 1200, 12000, 65520} {
		got := size(steady(n)) - none
		if most := n*5/4 + n/120*20 + 2; got > most {
			t.Errorf("%d points take %d bytes, more than %d", n, got, most)
		}
	}
	for n := 2; n < 116; n++ {
		if got := size(steady(n+4)) - size(steady(n)); got != 5 {
			t.Errorf("four points behind %d take %d bytes", n, got)
		}
	}
	late := steady(120)
	for i := range late {
		late[i].Seq = high
	}
	if got := size(late) - size(steady(120)); got != 9 {
		t.Errorf("a great number of a write takes %d bytes more", got)
	}
}
