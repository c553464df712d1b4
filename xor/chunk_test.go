package xor_test

import (
	"bytes"
	"testing"

	"manometer/api"
	"manometer/sample"
	"manometer/xor"
)

// mustHold asks a chunk for all that it tells.
func mustHold(t *testing.T, c *xor.Chunk, want []api.Sample) {
	t.Helper()
	if c == nil {
		t.Fatal("no chunk")
	}
	var last api.Sample
	if len(want) > 0 {
		last = want[len(want)-1]
	}
	if s, is := c.Last(); c.Count() != len(want) || s != last || is != (len(want) > 0) {
		t.Fatalf("%d samples, the last one %v %v, want %d, %v", c.Count(), s, is, len(want), last)
	}
	if b := c.Bytes(); !bytes.Equal(b, plainPut(want)) {
		t.Fatalf("%d samples: %.200x, want %.200x", len(want), b, plainPut(want))
	}
}

func mustAdd(t *testing.T, c *xor.Chunk, l ...api.Sample) {
	t.Helper()
	for _, s := range l {
		if err := c.Add(s); err != api.OK {
			t.Fatalf("Add of %v: %d", s, err)
		}
	}
}

func mustLoad(t *testing.T, b []byte) *xor.Chunk {
	t.Helper()
	c, err := xor.Load(b)
	if c == nil || err != api.OK {
		t.Fatalf("Load of %.200x: %v %d", b, c, err)
	}
	return c
}

// P8.3

func TestNewIsEmpty(t *testing.T) {
	mustHold(t, xor.New(), nil)
	a, b := xor.New(), xor.New()
	mustAdd(t, a, api.Sample{T: 1, V: one})
	mustHold(t, b, nil)
}

func TestAddOneByOne(t *testing.T) {
	d := sample.Draws(6)
	for range 200 {
		l := some(d, 30)
		c := xor.New()
		for i, s := range l {
			mustAdd(t, c, s)
			mustHold(t, c, l[:i+1])
		}
	}
}

// The first sample may be all 0, and is there all the same.
func TestAddOfNothingButZero(t *testing.T) {
	c := xor.New()
	l := make([]api.Sample, 5)
	for i, s := range l {
		mustAdd(t, c, s)
		mustHold(t, c, l[:i+1])
	}
}

func TestAddUpToMaxSamples(t *testing.T) {
	for _, l := range [][]api.Sample{make([]api.Sample, api.MaxSamples), widest(api.MaxSamples)} {
		c := xor.New()
		mustAdd(t, c, l[:api.MaxSamples-1]...)
		twin := c.Clone()
		mustAdd(t, c, l[api.MaxSamples-1])
		mustHold(t, c, l)
		mustHold(t, twin, l[:api.MaxSamples-1])
		for _, s := range []api.Sample{{}, {T: 5, V: one}} {
			for _, full := range []*xor.Chunk{c, c.Clone(), mustLoad(t, c.Bytes())} {
				if err := full.Add(s); err != api.ErrFull {
					t.Fatal(err)
				}
				mustHold(t, full, l)
			}
		}
		mustAdd(t, twin, l[api.MaxSamples-1])
		mustHold(t, twin, l)
		if err := twin.Add(api.Sample{}); err != api.ErrFull {
			t.Fatal(err)
		}
	}
}

func TestLoad(t *testing.T) {
	mustHold(t, mustLoad(t, []byte{0, 0}), nil)
	d := sample.Draws(7)
	for range 500 {
		l := some(d, d.Below(30))
		b := plainPut(l)
		c := mustLoad(t, b)
		clear(b)
		mustHold(t, c, l)
	}
}

// What Get refuses Load refuses: mustRefuse asks both, here and where Get is asked.
func TestLoadRefuses(t *testing.T) {
	for text, want := range map[string]api.Errno{"": api.ErrShort, "x00": api.ErrShort, "x0001": api.ErrShort, "x0000 x00": api.ErrForm, "x0001 x8000": api.ErrForm, "x0002" + still + "10": api.ErrForm, "x0003" + still + "0 10 00000000000000 0": api.ErrForm} {
		mustRefuse(t, chunk(text), want)
	}
}

func TestCloneGoesItsOwnWay(t *testing.T) {
	d := sample.Draws(8)
	for range 100 {
		l := some(d, 20)
		for _, at := range []int{0, 1, 2, 3, 10} {
			c := xor.New()
			mustAdd(t, c, l[:at]...)
			twin := c.Clone()
			if twin == c {
				t.Fatal("no other one")
			}
			mustHold(t, twin, l[:at])
			mustAdd(t, c, l[at:]...)
			mustHold(t, twin, l[:at])
			other := some(d, 10)
			mustAdd(t, twin, other...)
			mustHold(t, c, l)
			mustHold(t, twin, append(l[:at:at], other...))
		}
	}
}

func TestBytesAreTheirOwnMemory(t *testing.T) {
	l := widest(20)
	c := xor.New()
	for i, s := range l {
		mustAdd(t, c, s)
		b := c.Bytes()
		more := c.Bytes()
		clear(b)
		clear(b[:cap(b)])
		if !bytes.Equal(more, plainPut(l[:i+1])) {
			t.Fatal("two answers share memory")
		}
		mustHold(t, c, l[:i+1])
	}
	early := c.Bytes()
	mustAdd(t, c, widest(20)...)
	if !bytes.Equal(early, plainPut(l)) {
		t.Fatal("a later Add changed what was handed out")
	}
}

func TestChunkThatNoCallMade(t *testing.T) {
	for _, c := range []*xor.Chunk{nil, {}} {
		for range 2 {
			if err := c.Add(api.Sample{T: 1, V: one}); err != api.ErrMade {
				t.Error(err)
			}
			if s, is := c.Last(); c.Count() != 0 || s != (api.Sample{}) || is || c.Bytes() != nil || c.Clone() != nil {
				t.Error(c.Count(), s, is, c.Bytes(), c.Clone())
			}
		}
	}
}

// P8.7

func TestLoadedGoesOn(t *testing.T) {
	d := sample.Draws(9)
	for range 100 {
		l := some(d, 25)
		for at := range l {
			c := xor.New()
			mustAdd(t, c, l[:at]...)
			loaded := mustLoad(t, c.Bytes())
			for i := at; i < len(l); i++ {
				mustAdd(t, c, l[i])
				mustAdd(t, loaded, l[i])
				if !bytes.Equal(loaded.Bytes(), c.Bytes()) {
					t.Fatalf("loaded at %d, at %d: %x, want %x", at, i, loaded.Bytes(), c.Bytes())
				}
			}
			mustHold(t, loaded, l)
		}
	}
}

// A chunk that grows by being saved and loaded ahead of each sample.
func TestLoadedAheadOfEach(t *testing.T) {
	l := append(some(sample.Draws(10), 100), widest(100)...)
	c := xor.New()
	for i, s := range l {
		c = mustLoad(t, c.Bytes())
		mustAdd(t, c, s)
		mustHold(t, c, l[:i+1])
	}
}
