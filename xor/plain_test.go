package xor_test

import (
	"encoding/binary"
	"fmt"
	"math"
	"math/big"
	"slices"
	"strings"
	"testing"

	"manometer/api"
	"manometer/sample"
	"manometer/xor"
)

// The plain form of a chunk is a text of digits 0 and 1.

// digits is n in width digits.
func digits(n uint64, width int) string { return fmt.Sprintf("%064b", n)[64-width:] }

// number is what the digits stand for.
func number(text string) uint64 {
	n, _ := new(big.Int).SetString("0"+text, 2)
	return n.Uint64()
}

// written is the digits of b.
func written(b []byte) string {
	var s strings.Builder
	for _, x := range b {
		fmt.Fprintf(&s, "%08b", x)
	}
	return s.String()
}

// packed is the digits in bytes, the last one filled with 0.
func packed(text string) []byte {
	text += strings.Repeat("0", (8-len(text)%8)%8)
	b := make([]byte, len(text)/8)
	for i, c := range text {
		if c == '1' {
			b[i/8] |= 0x80 >> (i % 8)
		}
	}
	return b
}

// chunk is the bytes of digits that blanks part; behind an x stand digits to the base 16.
func chunk(text string) []byte {
	var s strings.Builder
	for _, part := range strings.Fields(text) {
		hex, is := strings.CutPrefix(part, "x")
		if !is {
			s.WriteString(part)
			continue
		}
		for _, c := range hex {
			s.WriteString(digits(uint64(strings.IndexRune("0123456789abcdef", c)), 4))
		}
	}
	return packed(s.String())
}

// plainChange is the digits of the change d.
func plainChange(d int64) string {
	switch {
	case d == 0:
		return "0"
	case -8191 <= d && d <= 8192:
		return "10" + digits(uint64(d), 14)
	case -65535 <= d && d <= 65536:
		return "110" + digits(uint64(d), 17)
	case -524287 <= d && d <= 524288:
		return "1110" + digits(uint64(d), 20)
	}
	return "1111" + digits(uint64(d), 64)
}

// plainTurns is the digits of each turn, one behind the other.
func plainTurns(turns []uint64) []string {
	var l []string
	from, to := -1, -1 // the window, as places of digits
	for _, x := range turns {
		if x == 0 {
			l = append(l, "0")
			continue
		}
		all := digits(x, 64)
		one, end := min(strings.Index(all, "1"), 31), strings.LastIndex(all, "1")+1
		if from >= 0 && from <= one && end <= to {
			l = append(l, "10"+all[from:to])
			continue
		}
		from, to = one, end
		l = append(l, "11"+digits(uint64(from), 5)+digits(uint64(to-from), 6)+all[from:to])
	}
	return l
}

// plainPut is Put, word by word, of as many samples as have room.
func plainPut(l []api.Sample) []byte {
	var turns []uint64
	for i := 1; i < len(l); i++ {
		turns = append(turns, l[i].V^l[i-1].V)
	}
	turn := plainTurns(turns)
	var s strings.Builder
	s.WriteString(digits(uint64(len(l)), 16))
	for i := range l {
		switch i {
		case 0:
			s.WriteString(written(binary.AppendVarint(nil, l[0].T)) + digits(l[0].V, 64))
		case 1:
			s.WriteString(written(binary.AppendUvarint(nil, uint64(l[1].T-l[0].T))) + turn[0])
		default:
			s.WriteString(plainChange(l[i].T-l[i-1].T-(l[i-1].T-l[i-2].T)) + turn[i-1])
		}
	}
	return packed(s.String())
}

// plainReader takes digits from the front of a text, and panics with the error that it meets.
type plainReader struct {
	left     string
	from, to int
}

func (r *plainReader) take(width int) string {
	if len(r.left) < width {
		panic(api.ErrShort)
	}
	part := r.left[:width]
	r.left = r.left[width:]
	return part
}

func (r *plainReader) few() uint64 {
	var b []byte
	for len(b) < 10 && (len(b) == 0 || b[len(b)-1] >= 128) {
		b = append(b, byte(number(r.take(8))))
	}
	n, size := binary.Uvarint(b)
	if size != len(b) || len(b) > 1 && b[len(b)-1] == 0 {
		panic(api.ErrForm)
	}
	return n
}

func (r *plainReader) change() int64 {
	for _, width := range []int{0, 14, 17, 20} {
		if r.take(1) == "1" {
			continue
		}
		n := int64(number(r.take(width)))
		if width > 0 && n > 1<<(width-1) {
			n -= 1 << width
		}
		return n
	}
	return int64(number(r.take(64)))
}

func (r *plainReader) turn() uint64 {
	if r.take(1) == "0" {
		return 0
	}
	if r.take(1) == "0" {
		if r.to == 0 {
			panic(api.ErrForm)
		}
	} else {
		lead, width := int(number(r.take(5))), int(number(r.take(6)))
		if width == 0 {
			width = 64
		}
		if lead+width > 64 {
			panic(api.ErrForm)
		}
		r.from, r.to = lead, lead+width
	}
	return number(r.take(r.to-r.from) + strings.Repeat("0", 64-r.to))
}

// plainGet is Get, word by word.
func plainGet(b []byte) (l []api.Sample, err api.Errno) {
	defer func() {
		if met := recover(); met != nil {
			l, err = nil, met.(api.Errno)
		}
	}()
	r := plainReader{left: written(b)}
	count := int(number(r.take(16)))
	var step int64
	for i := range count {
		if i == 0 {
			z := r.few()
			l = append(l, api.Sample{T: int64(z>>1) ^ -int64(z&1), V: number(r.take(64))})
			continue
		}
		if i == 1 {
			step = int64(r.few())
		} else {
			step += r.change()
		}
		l = append(l, api.Sample{T: l[i-1].T + step, V: l[i-1].V ^ r.turn()})
	}
	if !slices.Equal(plainPut(l), b) {
		return nil, api.ErrForm
	}
	return l, api.OK
}

// edges are the changes where another width begins, and those around them.
var edges = []int64{0, 1, 2, 8190, 8191, 8192, 8193, 16383, 16384, 65535, 65536, 65537, 131071, 131072, 524287, 524288, 524289, 1 << 20, math.MaxInt64, math.MinInt64}

// some is count samples, as like each other as kind says.
func some(d *sample.Draw, count int) []api.Sample {
	var l []api.Sample
	var s api.Sample
	var step int64
	kind := d.Below(4)
	for range count {
		switch d.Below(6) {
		case 0:
			step = int64(d.Next())
		case 1:
			step += int64(d.Next()) >> d.Below(64)
		case 2:
			step += edges[d.Below(len(edges))]
		case 3:
			step -= edges[d.Below(len(edges))]
		}
		s.T += step
		switch d.Below(5) {
		case 0:
			s.V ^= d.Next() >> d.Below(64) << d.Below(64)
		case 1:
			s.V = math.Float64bits(float64(d.Below(100)))
		case 2:
			if kind == 0 {
				s.V = d.Next()
			}
		case 3:
			if kind == 1 {
				s.V ^= d.Next() >> (33 + d.Below(30))
			}
		}
		l = append(l, s)
	}
	return l
}

// widest is count samples that take the most bits: no change is small, and no window holds the next turn.
func widest(count int) []api.Sample {
	var l []api.Sample
	var v uint64
	for i := range count {
		t := int64(0)
		if i%2 == 1 {
			t = math.MinInt64 / 3
		}
		l = append(l, api.Sample{T: t, V: v})
		if i%2 == 0 {
			v ^= 1<<63 | 2 // all but the lowest bit
		} else {
			v ^= 1<<62 | 1 // all but the highest one
		}
	}
	return l
}

func mustPut(t *testing.T, l []api.Sample) []byte {
	t.Helper()
	b, err := xor.Put(l)
	if err != api.OK {
		t.Fatalf("Put of %d samples: %d", len(l), err)
	}
	return b
}

func mustHave(t *testing.T, b []byte, want []api.Sample) {
	t.Helper()
	if l, err := xor.Get(b); err != api.OK || !slices.Equal(l, want) {
		t.Fatalf("Get of %.200x: %.10v %d, want %.10v", b, l, err, want)
	}
}

func mustRefuse(t *testing.T, b []byte, want api.Errno) {
	t.Helper()
	if l, err := xor.Get(b); len(l) > 0 || err != want {
		t.Errorf("Get of %.200x: %.10v %d, want %d", b, l, err, want)
	}
	if c, err := xor.Load(b); c != nil || err != want {
		t.Errorf("Load of %.200x: %v %d, want %d", b, c, err, want)
	}
}
