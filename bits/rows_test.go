package bits_test

import (
	"bytes"
	"math"
	"testing"

	"manometer/api"
	"manometer/bits"
)

// row is a row of bits, a byte a bit: so plain that it is surely right.
type row []byte

func (l row) with(n uint64, width int) row {
	for i := width - 1; i >= 0; i-- {
		l = append(l, byte(n>>i&1))
	}
	return l
}

func (l row) number() uint64 {
	var n uint64
	for _, x := range l {
		n = 2*n + uint64(x)
	}
	return n
}

func (l row) bytes() []byte {
	b := make([]byte, (len(l)+7)/8)
	for i, x := range l {
		b[i/8] |= x << (7 - i%8)
	}
	return b
}

// draw makes numbers that look like any, the same ones each time.
type draw uint64

func (d *draw) next() uint64 {
	*d += 0x9e3779b97f4a7c15
	z := uint64(*d)
	z = (z ^ z>>30) * 0xbf58476d1ce4e5b9
	z = (z ^ z>>27) * 0x94d049bb133111eb
	return z ^ z>>31
}

// lowest is n without the bits above its lowest width.
func lowest(n uint64, width int) uint64 {
	if width == 64 {
		return n
	}
	return n & (1<<width - 1)
}

func mustPut(t *testing.T, w *bits.Writer, n uint64, width int) {
	t.Helper()
	if e := w.Put(n, width); e != api.OK {
		t.Fatalf("Put(%#x, %d): %d", n, width, e)
	}
}

func mustHold(t *testing.T, w *bits.Writer, want row) {
	t.Helper()
	if w.Len() != len(want) || !bytes.Equal(w.Bytes(), want.bytes()) {
		t.Fatalf("%d bits %x, want %d bits %x", w.Len(), w.Bytes(), len(want), want.bytes())
	}
}

func mustGet(t *testing.T, r *bits.Reader, width int, want uint64) {
	t.Helper()
	if n, e := r.Get(width); n != want || e != api.OK {
		t.Fatalf("Get(%d): %#x %d, want %#x", width, n, e, want)
	}
}

func mustRefuse(t *testing.T, r *bits.Reader, width int, want api.Errno) {
	t.Helper()
	left := r.Left()
	if n, e := r.Get(width); n != 0 || e != want {
		t.Fatalf("Get(%d): %#x %d, want error %d", width, n, e, want)
	}
	if r.Left() != left {
		t.Fatalf("Get(%d) was refused, and %d bits of %d are left", width, r.Left(), left)
	}
}

func reader(t *testing.T, b []byte, n int) *bits.Reader {
	t.Helper()
	r, e := bits.NewReader(b, n)
	if e != api.OK || r == nil || r.Left() != n {
		t.Fatalf("NewReader of %d bytes, %d: %v %d", len(b), n, r, e)
	}
	return r
}

func TestLimitsAndErrors(t *testing.T) {
	if api.MaxBits != 8388608 {
		t.Error("MaxBits", api.MaxBits)
	}
	got := []api.Errno{api.OK, api.ErrArg, api.ErrMade, api.ErrFull, api.ErrShort, api.ErrForm, api.ErrOver}
	for i, want := range []int{0, 1, 2, 5, 6, 8, 9} {
		if int(got[i]) != want {
			t.Error(got[i], want)
		}
	}
}

// P1.1

func TestNewWriterIsEmpty(t *testing.T) {
	w := bits.NewWriter()
	if w == nil {
		t.Fatal("nil")
	}
	mustHold(t, w, nil)
}

func TestWritersAreApart(t *testing.T) {
	a, b := bits.NewWriter(), bits.NewWriter()
	mustPut(t, a, 5, 3)
	mustHold(t, b, nil)
}

func TestPutExample(t *testing.T) {
	w := bits.NewWriter()
	mustPut(t, w, 5, 3)
	mustPut(t, w, 1, 6)
	if !bytes.Equal(w.Bytes(), []byte{0xa0, 0x80}) || w.Len() != 9 {
		t.Fatalf("%x %d", w.Bytes(), w.Len())
	}
}

func TestPutAnyWidthAtAnyPlace(t *testing.T) {
	d := draw(1)
	for place := range 9 {
		for width := range 65 {
			w, want := bits.NewWriter(), row(nil)
			for _, step := range []int{place, width, 3} {
				n := lowest(d.next(), step)
				mustPut(t, w, n, step)
				want = want.with(n, step)
				mustHold(t, w, want)
			}
		}
	}
}

func TestPutLongRow(t *testing.T) {
	d, w, want := draw(2), bits.NewWriter(), row(nil)
	for range 500 {
		width := int(d.next() % 65)
		n := lowest(d.next(), width)
		mustPut(t, w, n, width)
		want = want.with(n, width)
	}
	mustHold(t, w, want)
}

func TestPutWidth0(t *testing.T) {
	w := bits.NewWriter()
	mustPut(t, w, 0, 0)
	mustHold(t, w, nil)
	mustPut(t, w, 5, 3)
	mustPut(t, w, 0, 0)
	mustHold(t, w, row{1, 0, 1})
}

func TestPutWidth64(t *testing.T) {
	for _, n := range []uint64{0, 1, 1 << 63, 0x0123456789abcdef, math.MaxUint64} {
		w := bits.NewWriter()
		mustPut(t, w, n, 64)
		mustHold(t, w, row(nil).with(n, 64))
	}
}

func TestPutWidthOutOfRange(t *testing.T) {
	w := bits.NewWriter()
	mustPut(t, w, 5, 3)
	for _, width := range []int{-1, -3, -8, -64, math.MinInt, 65, 66, 72, 128, 1 << 32, math.MaxInt} {
		for _, n := range []uint64{0, 1, math.MaxUint64} {
			if e := w.Put(n, width); e != api.ErrArg {
				t.Fatalf("Put(%#x, %d): %d", n, width, e)
			}
			mustHold(t, w, row{1, 0, 1})
		}
	}
}

func TestPutNumberAboveItsWidth(t *testing.T) {
	for width := range 64 {
		w := bits.NewWriter()
		mustPut(t, w, 1, 1)
		for _, n := range []uint64{1 << width, 1 << 63, 1<<width | 1<<63, math.MaxUint64} {
			if e := w.Put(n, width); e != api.ErrArg {
				t.Fatalf("Put(%#x, %d): %d", n, width, e)
			}
			mustHold(t, w, row{1})
		}
		most := uint64(1)<<width - 1
		mustPut(t, w, most, width)
		mustHold(t, w, row{1}.with(most, width))
	}
}

// filled is a writer of n bits, all of them 1 but the first.
func filled(t *testing.T, n int) *bits.Writer {
	t.Helper()
	w := bits.NewWriter()
	mustPut(t, w, 0, 1)
	for n--; n >= 64; n -= 64 {
		mustPut(t, w, math.MaxUint64, 64)
	}
	mustPut(t, w, 1<<n-1, n)
	return w
}

func TestPutUpToMaxBits(t *testing.T) {
	w := filled(t, 8388608)
	b := w.Bytes()
	if w.Len() != 8388608 || len(b) != 1048576 || b[0] != 0x7f || b[1048575] != 0xff {
		t.Fatal(w.Len(), len(b))
	}
	for _, width := range []int{1, 8, 64} {
		if e := w.Put(0, width); e != api.ErrFull {
			t.Fatalf("Put of %d bits: %d", width, e)
		}
	}
	if w.Len() != 8388608 || !bytes.Equal(w.Bytes(), b) {
		t.Fatal("what was refused changed the row")
	}
	mustPut(t, w, 0, 0)
	for _, bad := range []struct {
		n     uint64
		width int
	}{{0, -1}, {0, 65}, {1, 0}, {2, 1}} {
		if e := w.Put(bad.n, bad.width); e != api.ErrArg {
			t.Fatalf("Put(%d, %d) of a full row: %d", bad.n, bad.width, e)
		}
	}
	if e := w.Clone().Put(1, 1); e != api.ErrFull {
		t.Fatal("the clone of a full row takes a bit", e)
	}
}

func TestPutBeyondMaxBitsThenJustAsMany(t *testing.T) {
	for _, room := range []int{1, 3, 8, 63} {
		w := filled(t, api.MaxBits-room)
		b := w.Bytes()
		if e := w.Put(0, room+1); e != api.ErrFull {
			t.Fatalf("Put of %d bits where %d are left: %d", room+1, room, e)
		}
		if w.Len() != api.MaxBits-room || !bytes.Equal(w.Bytes(), b) {
			t.Fatal("what was refused changed the row")
		}
		mustPut(t, w, 1, room)
		if b := w.Bytes(); w.Len() != api.MaxBits || len(b) != api.MaxBits/8 || b[len(b)-1]&1 != 1 {
			t.Fatal(w.Len(), len(b))
		}
	}
}

func TestLastByteIsFilledWith0(t *testing.T) {
	for width := range 20 {
		w := bits.NewWriter()
		mustPut(t, w, 1<<width-1, width)
		b := w.Bytes()
		if len(b) != (width+7)/8 {
			t.Fatalf("%d bits in %d bytes", width, len(b))
		}
		if rest := 8*len(b) - width; rest > 0 && b[len(b)-1] != byte(0xff<<rest) {
			t.Fatalf("%d bits: %x", width, b)
		}
	}
}

func TestWriterClone(t *testing.T) {
	for _, width := range []int{0, 3, 8, 13, 64} {
		w := bits.NewWriter()
		want := row(nil).with(lowest(0x5aa5, width), width)
		mustPut(t, w, lowest(0x5aa5, width), width)
		c := w.Clone()
		if c == nil || c == w {
			t.Fatal("no clone")
		}
		mustHold(t, c, want)
		mustPut(t, w, 1, 2)
		mustHold(t, c, want)
		mustPut(t, c, 2, 2)
		mustPut(t, c, 0x1ff, 9)
		mustHold(t, w, want.with(1, 2))
		mustHold(t, c, want.with(2, 2).with(0x1ff, 9))
	}
}

func TestBytesAreTheirOwnMemory(t *testing.T) {
	w := bits.NewWriter()
	mustPut(t, w, 0xabc, 12)
	b, other := w.Bytes(), w.Bytes()
	mustPut(t, w, 0xf, 4)
	mustPut(t, w, 0xf, 4)
	if !bytes.Equal(b, []byte{0xab, 0xc0}) {
		t.Fatalf("a later Put changed what was handed out: %x", b)
	}
	for i := range b {
		b[i] = 0x11
	}
	_ = append(b, 0x22, 0x22)
	if !bytes.Equal(other, []byte{0xab, 0xc0}) {
		t.Fatalf("two answers share memory: %x", other)
	}
	mustHold(t, w, row(nil).with(0xabcff, 20))
}

func TestWriterThatNoCallMade(t *testing.T) {
	for _, w := range []*bits.Writer{nil, {}} {
		for _, a := range []struct {
			n     uint64
			width int
		}{{0, 0}, {1, 1}, {2, 1}, {0, -1}, {0, 65}, {math.MaxUint64, 64}} {
			if e := w.Put(a.n, a.width); e != api.ErrMade {
				t.Fatal(a, e)
			}
		}
		if w.Len() != 0 || len(w.Bytes()) != 0 || w.Clone() != nil {
			t.Fatal(w.Len(), w.Bytes(), w.Clone())
		}
	}
}

// P1.2

func TestNewReaderRange(t *testing.T) {
	for size := range 5 {
		b := make([]byte, size, 16)
		for n := range 8*size + 1 {
			reader(t, b, n)
		}
		for _, n := range []int{-1, -8, math.MinInt, 8*size + 1, 8*size + 7, 8*size + 8, math.MaxInt - 7, math.MaxInt} {
			if r, e := bits.NewReader(b, n); r != nil || e != api.ErrArg {
				t.Fatalf("NewReader of %d bytes, %d: %v %d", size, n, r, e)
			}
		}
	}
	reader(t, nil, 0)
	for _, n := range []int{-1, 1} {
		if r, e := bits.NewReader(nil, n); r != nil || e != api.ErrArg {
			t.Fatal(n, r, e)
		}
	}
}

func TestReaderWithoutBits(t *testing.T) {
	for _, b := range [][]byte{nil, {}, {0xff}} {
		r := reader(t, b, 0)
		mustGet(t, r, 0, 0)
		mustRefuse(t, r, 1, api.ErrShort)
		mustRefuse(t, r, 65, api.ErrArg)
		if c := r.Clone(); c == nil || c.Left() != 0 {
			t.Fatal("clone")
		}
	}
}

func TestGetExample(t *testing.T) {
	r := reader(t, []byte{0xa0, 0x80}, 9)
	mustGet(t, r, 3, 5)
	mustGet(t, r, 6, 1)
	if r.Left() != 0 {
		t.Fatal(r.Left())
	}
}

func TestGetAnyWidthAtAnyPlace(t *testing.T) {
	d := draw(3)
	for place := range 9 {
		for width := range 65 {
			all := row(nil).with(d.next(), 64).with(d.next(), 64)
			r := reader(t, all.bytes(), len(all))
			at := 0
			for _, step := range []int{place, width, 3, len(all) - place - width - 3 - 1} {
				step = min(step, 64)
				mustGet(t, r, step, all[at:at+step].number())
				if at += step; r.Left() != len(all)-at {
					t.Fatal(r.Left(), len(all)-at)
				}
			}
		}
	}
}

func TestGetWidthOutOfRange(t *testing.T) {
	r := reader(t, []byte{0xa5, 0xc3}, 16)
	for _, next := range []uint64{0xa5, 0xc3} {
		for _, width := range []int{-1, -8, math.MinInt, 65, 66, 128, 1 << 32, math.MaxInt} {
			mustRefuse(t, r, width, api.ErrArg)
		}
		mustGet(t, r, 8, next)
	}
	mustRefuse(t, r, -1, api.ErrArg)
	mustRefuse(t, r, 65, api.ErrArg) // though none is left, too
}

func TestGetWidth0(t *testing.T) {
	r := reader(t, []byte{0xa5}, 8)
	for left := 8; left >= 0; left-- {
		mustGet(t, r, 0, 0)
		if r.Left() != left {
			t.Fatal(r.Left(), left)
		}
		if left > 0 {
			mustGet(t, r, 1, 0xa5>>(left-1)&1)
		}
	}
}

func TestGetWidth64(t *testing.T) {
	b := []byte{0x80, 1, 2, 3, 4, 5, 6, 7, 0xff}
	mustGet(t, reader(t, b, 64), 64, 0x8001020304050607)
	r := reader(t, b, 72)
	mustGet(t, r, 5, 0x10)
	mustGet(t, r, 64, 0x0020406080a0c0ff)
	mustGet(t, r, 3, 7)
	mustRefuse(t, reader(t, b, 63), 64, api.ErrShort)
}

func TestGetMoreThanAreLeft(t *testing.T) {
	for n := range 64 {
		r := reader(t, bytes.Repeat([]byte{0xff}, 9), n) // the bytes have more bits, but they do not count
		for _, width := range []int{n + 1, 64} {
			mustRefuse(t, r, width, api.ErrShort)
		}
		mustGet(t, r, n, 1<<n-1)
		mustRefuse(t, r, 1, api.ErrShort)
		mustGet(t, r, 0, 0)
	}
}

func TestReaderClone(t *testing.T) {
	r := reader(t, []byte{0xa5, 0xc3, 0x7e}, 22)
	mustGet(t, r, 5, 0x14)
	c := r.Clone()
	if c == nil || c == r || c.Left() != 17 {
		t.Fatal("no clone at the same place")
	}
	mustGet(t, r, 11, 0x5c3)
	if c.Left() != 17 {
		t.Fatal(c.Left())
	}
	mustGet(t, c, 17, 0x5c3<<6|0x1f)
	if r.Left() != 6 {
		t.Fatal(r.Left())
	}
	mustGet(t, r, 6, 0x1f)
	mustRefuse(t, c, 1, api.ErrShort)
}

func TestReaderThatNoCallMade(t *testing.T) {
	for _, r := range []*bits.Reader{nil, {}} {
		for _, width := range []int{-1, 0, 1, 64, 65} {
			if n, e := r.Get(width); n != 0 || e != api.ErrMade {
				t.Fatal(width, n, e)
			}
		}
		if r.Left() != 0 || r.Clone() != nil {
			t.Fatal(r.Left(), r.Clone())
		}
	}
}

func TestBytesHandedInAreNeitherKeptNorChanged(t *testing.T) {
	b := []byte{0xa5, 0xc3, 0x7e}
	r := reader(t, b, 21)
	mustGet(t, r, 4, 0xa)
	c := r.Clone()
	if !bytes.Equal(b, []byte{0xa5, 0xc3, 0x7e}) {
		t.Fatalf("changed: %x", b)
	}
	clear(b)
	mustGet(t, r, 12, 0x5c3)
	mustGet(t, r, 5, 0xf)
	mustGet(t, c, 17, 0x5c3<<5|0xf)
}

// P1.5

func TestRowsThereAndBack(t *testing.T) {
	d := draw(4)
	for range 200 {
		w := bits.NewWriter()
		var numbers []uint64
		var widths []int
		for range d.next() % 40 {
			width := int(d.next() % 65)
			n := lowest(d.next(), width)
			mustPut(t, w, n, width)
			numbers, widths = append(numbers, n), append(widths, width)
		}
		r := reader(t, w.Bytes(), w.Len())
		for i, width := range widths {
			mustGet(t, r, width, numbers[i])
		}
		mustRefuse(t, r, 1, api.ErrShort)
	}
}
