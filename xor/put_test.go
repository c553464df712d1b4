package xor_test

import (
	"bytes"
	"encoding/binary"
	"encoding/hex"
	"math"
	"slices"
	"strings"
	"testing"

	"manometer/api"
	"manometer/sample"
	"manometer/xor"
)

const one = 0x3ff0000000000000 // the value 1

func TestLimitsAndErrors(t *testing.T) {
	if api.MaxSamples != 65535 {
		t.Error("MaxSamples", api.MaxSamples)
	}
	got := []api.Errno{api.OK, api.ErrMade, api.ErrLong, api.ErrFull, api.ErrShort, api.ErrForm}
	for i, want := range []int{0, 2, 3, 5, 6, 8} {
		if int(got[i]) != want {
			t.Error(got[i], want)
		}
	}
}

// P8.1

func TestPutExamples(t *testing.T) {
	for _, l := range [][]api.Sample{nil, {}} {
		if b, err := xor.Put(l); err != api.OK || !bytes.Equal(b, []byte{0, 0}) {
			t.Errorf("no samples: %x %d", b, err)
		}
	}
	if b := mustPut(t, []api.Sample{{T: 0, V: one}}); !bytes.Equal(b, []byte{0, 1, 0, 0x3f, 0xf0, 0, 0, 0, 0, 0, 0}) {
		t.Errorf("%x", b)
	}
}

// Another program packed these.
func TestPutOfAnotherProgram(t *testing.T) {
	var l []api.Sample
	for _, x := range []struct {
		t int64
		v float64
	}{{1600000000000, 1}, {1600000015000, 1}, {1600000030001, 1.5}, {1600000045000, -2}, {1600000110000, 0.1}, {1600000200000, 100}, {1600001000000, math.Inf(1)}, {1600009000000, math.Inf(1)}, {1600001000000, 3.25}} {
		l = append(l, api.Sample{T: x.t, V: math.Float64bits(x.v)})
	}
	want := "00098080f4f6905d3ff000000000000098754000ec077ffd80dfffe61a8e0fffee666666666666e30d44ffc1333333333337c00000000002b55c23fa9000000000001e0000000000dbba00fffffffffff0bdc008ffe8000000000000"
	if b := mustPut(t, l); hex.EncodeToString(b) != want {
		t.Errorf("%x", b)
	}
	l = append(l, api.Sample{T: math.MinInt64, V: 1}, api.Sample{T: math.MaxInt64, V: math.MaxUint64}, api.Sample{T: -1, V: api.Stale})
	want = "000c8080f4f6905d3ff000000000000098754000ec077ffd80dfffe61a8e0fffee666666666666e30d44ffc1333333333337c00000000002b55c23fa9000000000001e0000000000dbba00fffffffffff0bdc008ffe8000000000007bfffff45bc7e27e061fe005000000000000fc00000ba43bee11fe0ffffffffffffffffffc000000000000000e002003ffffffffffff4"
	if b := mustPut(t, l); hex.EncodeToString(b) != want {
		t.Errorf("%x", b)
	}
}

func TestPutFirst(t *testing.T) {
	for _, at := range []int64{0, -1, 1, 63, 64, -64, -65, 8191, 8192, 1600000000000, math.MaxInt64, math.MinInt64} {
		for _, v := range []uint64{0, 1, one, 1 << 63, 0x0123456789abcdef, api.Stale, math.MaxUint64} {
			want := binary.AppendVarint([]byte{0, 1}, at)
			want = binary.BigEndian.AppendUint64(want, v)
			l := []api.Sample{{T: at, V: v}}
			if b := mustPut(t, l); !bytes.Equal(b, want) {
				t.Errorf("%d %x: %x, want %x", at, v, b, want)
			}
			mustHave(t, want, l)
		}
	}
}

// The step of the second sample is a number without a sign.
func TestPutStep(t *testing.T) {
	for _, c := range []struct {
		from, to int64
		step     string
	}{
		{0, 0, "x00"}, {7, 7, "x00"}, {0, 1, "x01"}, {-1, 0, "x01"}, {5, 132, "x7f"}, {5, 133, "x8001"}, {-150, 150, "xac02"}, {0, 15000, "x9875"},
		{1, 0, "xffffffffffffffffff01"}, {0, -1, "xffffffffffffffffff01"}, {0, -2, "xfeffffffffffffffff01"}, {15000, 0, "xe88affffffffffffff01"},
		{0, math.MaxInt64, "xffffffffffffffff7f"}, {0, math.MinInt64, "x80808080808080808001"}, {-1, math.MaxInt64, "x80808080808080808001"}, {math.MinInt64, math.MaxInt64, "xffffffffffffffffff01"}, {math.MaxInt64, math.MinInt64, "x01"},
	} {
		l := []api.Sample{{T: c.from, V: one}, {T: c.to, V: one}}
		want := slices.Concat(binary.AppendVarint([]byte{0, 2}, c.from), chunk("x3ff0000000000000 "+c.step+" 0"))
		if b := mustPut(t, l); !bytes.Equal(b, want) {
			t.Errorf("from %d to %d: %x, want %x", c.from, c.to, b, want)
		}
		mustHave(t, want, l)
	}
}

func TestPutChanges(t *testing.T) {
	for _, c := range []struct {
		change int64
		want   string
	}{
		{0, "0"},
		{1, "10 00000000000001"}, {-1, "10 11111111111111"}, {5, "10 00000000000101"}, {-8190, "10 10000000000010"}, {8191, "10 01111111111111"},
		{-8191, "10 10000000000001"}, {8192, "10 10000000000000"},
		{-8192, "110 11110000000000000"}, {8193, "110 00010000000000001"}, {-65534, "110 10000000000000010"}, {65535, "110 01111111111111111"},
		{-65535, "110 10000000000000001"}, {65536, "110 10000000000000000"},
		{-65536, "1110 11110000000000000000"}, {65537, "1110 00010000000000000001"}, {-524286, "1110 10000000000000000010"}, {524287, "1110 01111111111111111111"},
		{-524287, "1110 10000000000000000001"}, {524288, "1110 10000000000000000000"},
		{-524288, "1111 xfffffffffff80000"}, {524289, "1111 x0000000000080001"}, {1 << 32, "1111 x0000000100000000"}, {-1 << 40, "1111 xffffff0000000000"},
		{math.MaxInt64, "1111 x7fffffffffffffff"}, {math.MinInt64, "1111 x8000000000000000"}, {math.MinInt64 + 1, "1111 x8000000000000001"},
	} {
		for _, step := range []int64{0, 100, -100, math.MaxInt64, math.MinInt64} {
			at := step + (step + c.change)
			l := []api.Sample{{T: 0, V: 0}, {T: step, V: 0}, {T: at, V: 0}, {T: at + step + c.change, V: 0}} // the last one goes on by the same step
			second := binary.AppendUvarint(nil, uint64(step))
			want := slices.Concat([]byte{0, 4}, make([]byte, 9), second, chunk("0 "+c.want+" 0 0 0"))
			if b := mustPut(t, l); !bytes.Equal(b, want) {
				t.Errorf("change %d of step %d: %x, want %x", c.change, step, b, want)
			}
			mustHave(t, want, l)
		}
	}
}

// turn is a value xor the one ahead, with the digits that tell it.
type turn struct {
	x    uint64
	want string
}

var turns = [][]turn{
	{{0, "0"}},
	{{0, "0"}, {0, "0"}, {0, "0"}},

	// The lead goes up to 31, and the width to 64.
	{{1 << 63, "11 00000 000001 1"}},
	{{1<<63 | 1, "11 00000 000000 x8000000000000001"}},
	{{math.MaxUint64, "11 00000 000000 xffffffffffffffff"}},
	{{math.MaxUint64 - 1, "11 00000 111111 xfffffffffffffff 111"}},
	{{math.MaxUint64 >> 1, "11 00001 111111 xfffffffffffffff 111"}},
	{{0x0008000000000000, "11 01100 000001 1"}},
	{{0x0018000000000000, "11 01011 000010 11"}},
	{{1 << 33, "11 11110 000001 1"}},
	{{1 << 32, "11 11111 000001 1"}},
	{{1 << 31, "11 11111 000010 01"}},
	{{1, "11 11111 100001 x00000000 1"}},
	{{6, "11 11111 100000 x00000003"}},

	// What lies within the window that is set.
	{{0xff00, "11 11111 011001 0 x0000ff"}, {0xff00, "10 0 x0000ff"}},
	{{0xff00, "11 11111 011001 0 x0000ff"}, {0x8100, "10 0 x000081"}, {0x0100, "10 0 x000001"}, {0x8000, "10 0 x000080"}, {1 << 32, "10 1 x000000"}},
	{{0xff00, "11 11111 011001 0 x0000ff"}, {0, "0"}, {0x0200, "10 0 x000002"}},
	{{0xff00 << 32, "11 10000 001000 xff"}, {0x1800 << 32, "10 x18"}, {0x8000 << 32, "10 x80"}, {0x0100 << 32, "10 x01"}},
	{{math.MaxUint64, "11 00000 000000 xffffffffffffffff"}, {1, "10 x0000000000000001"}, {1 << 63, "10 x8000000000000000"}},

	// What lies one bit too far ahead, or behind.
	{{0xff00, "11 11111 011001 0 x0000ff"}, {1 << 33, "11 11110 000001 1"}},
	{{0xff00, "11 11111 011001 0 x0000ff"}, {0x0080, "11 11111 011010 00 x000001"}},
	{{0xff00 << 32, "11 10000 001000 xff"}, {0x10000 << 32, "11 01111 000001 1"}},
	{{0xff00 << 32, "11 10000 001000 xff"}, {0x0080 << 32, "11 11000 000001 1"}},
	{{0xff00 << 32, "11 10000 001000 xff"}, {0x10080 << 32, "11 01111 001010 1000000001"}},
	{{0xff00 << 32, "11 10000 001000 xff"}, {1 << 31, "11 11111 000010 01"}},

	// The window that was set last counts, and no other.
	{{0xff00 << 32, "11 10000 001000 xff"}, {0x0080 << 32, "11 11000 000001 1"}, {0x8000 << 32, "11 10000 000001 1"}, {0x8000 << 32, "10 1"}},
	{{math.MaxUint64 - 1, "11 00000 111111 xfffffffffffffff 111"}, {1, "11 11111 100001 x00000000 1"}, {2, "10 x00000001 0"}},
}

func TestPutTurns(t *testing.T) {
	for _, v := range []uint64{0, one, math.MaxUint64} {
		for _, list := range turns {
			l := []api.Sample{{V: v}}
			text := digits(uint64(len(list)+1), 16) + " x00 " + digits(v, 64) + " x00 "
			for i, turn := range list {
				l = append(l, api.Sample{V: l[i].V ^ turn.x})
				if i > 0 {
					text += " 0 " // the change of the step
				}
				text += turn.want
			}
			if b := mustPut(t, l); !bytes.Equal(b, chunk(text)) {
				t.Errorf("%x: %x, want %x", list, b, chunk(text))
			}
			mustHave(t, chunk(text), l)
		}
	}
}

func TestPutOfMany(t *testing.T) {
	d := sample.Draws(1)
	for range 3000 {
		l := some(d, d.Below(40))
		if b := mustPut(t, l); !bytes.Equal(b, plainPut(l)) {
			t.Fatalf("%v: %x, want %x", l, b, plainPut(l))
		}
	}
}

func TestPutUpToMaxSamples(t *testing.T) {
	l := make([]api.Sample, api.MaxSamples+1)
	for i := range l {
		l[i] = api.Sample{T: int64(i), V: one}
	}
	if b, err := xor.Put(l); len(b) > 0 || err != api.ErrLong {
		t.Fatal(len(b), err)
	}
	if b, err := xor.Put(make([]api.Sample, 2*api.MaxSamples+2)); len(b) > 0 || err != api.ErrLong {
		t.Fatal(len(b), err)
	}
	for _, count := range []int{255, 256, 257, api.MaxSamples - 1, api.MaxSamples} {
		b := mustPut(t, l[:count])
		if b[0] != byte(count>>8) || b[1] != byte(count) || !bytes.Equal(b, plainPut(l[:count])) {
			t.Fatalf("%d samples: %.20x", count, b)
		}
		mustHave(t, b, l[:count])
	}
}

// MaxSamples samples may take more bits than a bits.Writer does.
func TestPutOfMoreThanMaxBits(t *testing.T) {
	l := widest(api.MaxSamples)
	b := mustPut(t, l)
	if 8*len(b) < api.MaxBits+1000000 || !bytes.Equal(b, plainPut(l)) {
		t.Fatal(len(b))
	}
	mustHave(t, b, l)
	mustRefuse(t, b[:len(b)-1], api.ErrShort)
	mustRefuse(t, append(b, 0), api.ErrForm)

	// and the same, where less is at its end, and what is behind is moved by some bits
	for _, count := range []int{58000, 58100, 58200, 58300, 58400, 58500} {
		for _, first := range []int64{0, 1 << 62} {
			part := slices.Concat([]api.Sample{{T: first}, {T: first}, {T: first + 1, V: 7}}, l[:count])
			b := mustPut(t, part)
			if !bytes.Equal(b, plainPut(part)) {
				t.Fatal(count)
			}
			mustHave(t, b, part)
		}
	}
}

func TestPutLeavesItsSamples(t *testing.T) {
	l := widest(9)
	kept := slices.Clone(l)
	b := mustPut(t, l)
	want := bytes.Clone(b)
	if !slices.Equal(l, kept) {
		t.Fatal("changed")
	}
	clear(l)
	other := mustPut(t, kept)
	clear(other)
	if !bytes.Equal(b, want) || !bytes.Equal(mustPut(t, kept), want) {
		t.Fatal("answers share memory")
	}
}

// P8.6

func TestEvenSamplesTakeTwoBits(t *testing.T) {
	for _, s := range []struct{ from, step int64 }{{0, 0}, {0, 15000}, {1600000000000, 15000}, {5, -3}, {math.MaxInt64, math.MaxInt64}, {-1, math.MinInt64}} {
		for _, v := range []uint64{0, one, api.Stale, math.MaxUint64} {
			var l []api.Sample
			for i := range 200 {
				l = append(l, api.Sample{T: s.from + int64(i)*s.step, V: v})
			}
			two := 16 + 8*len(binary.AppendVarint(nil, s.from)) + 64 + 8*len(binary.AppendUvarint(nil, uint64(s.step))) + 1
			for count := 2; count <= len(l); count++ {
				size := two + 2*(count-2)
				if b := mustPut(t, l[:count]); len(b) != (size+7)/8 || strings.Contains(written(b)[two:], "1") {
					t.Fatalf("%d samples from %d by %d: %x", count, s.from, s.step, b)
				}
			}
		}
	}
}
