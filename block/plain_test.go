package block_test

import (
	"cmp"
	"fmt"
	"math"
	"slices"
	"strconv"
	"testing"

	"manometer/api"
	"manometer/bits"
	"manometer/block"
	"manometer/frame"
	"manometer/labels"
	"manometer/points"
	"manometer/sample"
	"manometer/xor"
)

// The chapter's sentences, word by word.

// plainRight is Right.
func plainRight(l []api.Series) api.Errno {
	if len(l) > 4096 {
		return api.ErrLong
	}
	for i, one := range l {
		if i == 0 && one.Ref == 0 || i > 0 && one.Ref <= l[i-1].Ref {
			return api.ErrArg
		}
		if err := labels.Right(one.Labels); err != api.OK {
			return err
		}
		if !points.Right(one.Points) {
			return api.ErrArg
		}
	}
	met := map[string]bool{}
	for _, one := range l {
		text := labels.Print(one.Labels)
		if met[text] {
			return api.ErrTwice
		}
		met[text] = true
	}
	return api.OK
}

// plainSame is Same.
func plainSame(a, b []api.Series) bool {
	if len(a) != len(b) {
		return false
	}
	for i := range a {
		p, q := a[i], b[i]
		if p.Ref != q.Ref || len(p.Labels) != len(q.Labels) || len(p.Points) != len(q.Points) {
			return false
		}
		for j := range p.Labels {
			if p.Labels[j] != q.Labels[j] {
				return false
			}
		}
		for j := range p.Points {
			if p.Points[j] != q.Points[j] {
				return false
			}
		}
	}
	return true
}

// plainBytes is what Put makes of right series, but the sum: their parts one behind the other.
func plainBytes(l []api.Series) []byte {
	parts := []string{"mnb1", uv(uint64(len(l)))}
	for _, one := range l {
		parts = append(parts, plainSeries(one)...)
	}
	return joined(parts...)
}

// plainSeries is the parts of a series.
func plainSeries(one api.Series) []string {
	set, _ := labels.Put(one.Labels)
	parts := []string{uv(uint64(one.Ref)), string(set), uv(uint64(len(one.Points)))}
	var chunk []api.Sample
	for i, p := range one.Points {
		chunk = append(chunk, api.Sample{T: p.T, V: p.V})
		if i%120 == 119 || i == len(one.Points)-1 {
			parts = append(parts, chunked(chunk...))
			chunk = nil
		}
	}
	for i, p := range one.Points {
		if i == 0 {
			parts = append(parts, vi(int64(p.Seq)))
		} else {
			parts = append(parts, vi(int64(p.Seq-one.Points[i-1].Seq)))
		}
	}
	return parts
}

// chunked is a chunk's bytes, with how many they are ahead.
func chunked(l ...api.Sample) string {
	b, _ := xor.Put(l)
	return counted(string(b))
}

// counted is bytes with how many they are ahead.
func counted(b string) string { return uv(uint64(len(b))) + b }

// uv and vi are numbers in few bytes.
func uv(n uint64) string { return string(bits.PutUvarint(n)) }
func vi(n int64) string  { return string(bits.PutVarint(n)) }

func joined(parts ...string) []byte {
	var b []byte
	for _, part := range parts {
		b = append(b, part...)
	}
	return b
}

// sealed is bytes with what Put sets behind them.
func sealed(b []byte) []byte {
	sum := frame.Mask(frame.Sum(b))
	b = slices.Clone(b)
	for range 4 {
		b = append(b, byte(sum))
		sum >>= 8
	}
	return b
}

// plainTake is Take.
func plainTake(b []byte) ([]api.Series, api.Errno) {
	if len(b) < 9 {
		return nil, api.ErrShort
	}
	if string(b[:4]) != "mnb1" {
		return nil, api.ErrForm
	}
	if !slices.Equal(sealed(b[:len(b)-4]), b) {
		return nil, api.ErrSum
	}
	b = b[4 : len(b)-4]
	count, size, err := bits.Uvarint(b)
	if err != api.OK {
		return nil, err
	}
	if count > 4096 {
		return nil, api.ErrLong
	}
	b = b[size:]
	var l []api.Series
	for range count {
		one, rest, err := plainTakeOne(b)
		if err != api.OK {
			return nil, err
		}
		l, b = append(l, one), rest
	}
	if len(b) > 0 {
		return nil, api.ErrForm
	}
	if err := plainRight(l); err != api.OK {
		return nil, err
	}
	return l, api.OK
}

// plainTakeOne is the series that b begins with, and what stands behind it.
func plainTakeOne(b []byte) (one api.Series, rest []byte, err api.Errno) {
	ref, size, err := bits.Uvarint(b)
	if err != api.OK {
		return one, nil, err
	}
	if ref == 0 || ref > 4294967295 {
		return one, nil, api.ErrArg
	}
	one.Ref, b = uint32(ref), b[size:]
	one.Labels, size, err = labels.Take(b)
	if err != api.OK {
		return one, nil, err
	}
	b = b[size:]
	count, size, err := bits.Uvarint(b)
	if err != api.OK {
		return one, nil, err
	}
	if count > 65536 {
		return one, nil, api.ErrLong
	}
	b = b[size:]
	for uint64(len(one.Points)) < count {
		l, rest, err := plainTakeChunk(b, min(120, count-uint64(len(one.Points))))
		if err != api.OK {
			return one, nil, err
		}
		for _, s := range l {
			one.Points = append(one.Points, pt(s.T, s.V, 0))
		}
		b = rest
	}
	ahead := uint64(0)
	for i := range one.Points {
		n, size, err := bits.Varint(b)
		if err != api.OK {
			return one, nil, err
		}
		ahead += uint64(n)
		one.Points[i].Seq, b = ahead, b[size:]
	}
	return one, b, api.OK
}

func plainTakeChunk(b []byte, must uint64) ([]api.Sample, []byte, api.Errno) {
	n, size, err := bits.Uvarint(b)
	if err != api.OK {
		return nil, nil, err
	}
	b = b[size:]
	if n > uint64(len(b)) {
		return nil, nil, api.ErrShort
	}
	l, err := xor.Get(b[:n])
	if err != api.OK {
		return nil, nil, err
	}
	if uint64(len(l)) != must {
		return nil, nil, api.ErrArg
	}
	return l, b[n:], api.OK
}

// What is asked with.

func pt(t int64, v, seq uint64) api.Point { return api.Point{T: t, V: v, Seq: seq} }

func at(t int64, v uint64) api.Sample { return api.Sample{T: t, V: v} }

// of is the labels of names and values that stand by turns.
func of(parts ...string) api.Labels {
	var l api.Labels
	for i := 0; i < len(parts); i += 2 {
		l = append(l, api.Label{Name: parts[i], Value: parts[i+1]})
	}
	return l
}

func ser(ref uint32, l api.Labels, p ...api.Point) api.Series {
	return api.Series{Ref: ref, Labels: l, Points: p}
}

func list(l ...api.Series) []api.Series { return l }

// clone is l in memory of its own.
func clone(l []api.Series) []api.Series {
	l = slices.Clone(l)
	for i := range l {
		l[i].Labels, l[i].Points = slices.Clone(l[i].Labels), slices.Clone(l[i].Points)
	}
	return l
}

// high is a number whose highest bit is set: as one with a sign it would be below 0.
const high = 1 << 63

// The times, values and numbers of what is drawn.
var (
	times  = []int64{math.MinInt64, -1, 0, 5, math.MaxInt64}
	values = []uint64{0, 7, high, math.MaxUint64, 0x3ff0000000000000}
	seqs   = []uint64{1, 2, 3, high, math.MaxUint64}
)

// sets are right labels, not in their order.
func sets() []api.Labels {
	return []api.Labels{of("a", "x"), of("b", "x"), of("a", "x", "b", "x"), of("__name__", "up", "a", "y"), nil, of("a", "ä"), of("a", "X"), of("ab", "c")}
}

// steady is n points at even steps, by one write, with one value.
func steady(n int) []api.Point {
	l := make([]api.Point, n)
	for i := range l {
		l[i] = pt(int64(15*i), 7, 1)
	}
	return l
}

// wild is n points, right ones, of which each has much that the one ahead has not.
func wild(d *sample.Draw, n int) []api.Point {
	l := make([]api.Point, n)
	for i := range l {
		l[i] = pt(int64(d.Next()), d.Next()>>d.Below(64), max(1, d.Next()>>d.Below(64)))
	}
	slices.SortFunc(l, func(p, q api.Point) int { return cmp.Compare(p.T, q.T) })
	return slices.CompactFunc(l, func(p, q api.Point) bool { return p.T == q.T })
}

// drawnPoints are up to count points that look like any, as a right list.
func drawnPoints(d *sample.Draw, count int) []api.Point {
	if d.Below(4) == 0 {
		return wild(d, d.Below(count+1))
	}
	l := make([]api.Point, d.Below(count+1))
	for i := range l {
		l[i] = pt(pick(d, times), pick(d, values), pick(d, seqs))
		if d.Below(3) > 0 {
			l[i].T = int64(d.Below(3*count)) - int64(count)
		}
	}
	slices.SortFunc(l, func(p, q api.Point) int { return cmp.Compare(p.T, q.T) })
	return slices.CompactFunc(l, func(p, q api.Point) bool { return p.T == q.T })
}

func pick[E any](d *sample.Draw, l []E) E { return l[d.Below(len(l))] }

// drawn are right series of some of the sets, in any order, with numbers that leave gaps.
func drawn(d *sample.Draw, count int) []api.Series {
	var l []api.Series
	ref := uint32(0)
	all := sets()
	for i := range all {
		j := d.Below(i + 1)
		all[i], all[j] = all[j], all[i]
	}
	for _, set := range all {
		if d.Below(3) == 0 {
			continue
		}
		ref += uint32(1 + d.Below(300))
		l = append(l, ser(ref, set, drawnPoints(d, count)...))
	}
	return l
}

// wide is n series with a point each, none twice.
func wide(n int) []api.Series {
	l := make([]api.Series, n)
	for i := range l {
		l[i] = ser(uint32(2*i+1), of("a", "x", "n", strconv.Itoa(i)), pt(int64(i), uint64(i), 1))
	}
	return l
}

// What is asked of the package.

// short is the beginning of what is shown where a test fails.
func short(x any) string {
	s := fmt.Sprint(x)
	return s[:min(len(s), 2000)]
}

// mustBack asks Right and Put of right series, and Take of their bytes, which it tells.
func mustBack(t *testing.T, l []api.Series) []byte {
	t.Helper()
	if err := block.Right(l); err != api.OK {
		t.Fatalf("Right of %s: %d", short(l), err)
	}
	b, err := block.Put(l)
	if want := sealed(plainBytes(l)); err != api.OK || !slices.Equal(b, want) {
		t.Fatalf("Put of %s: %s, %d, want %s", short(l), short(b), err, short(want))
	}
	got, err := block.Take(b)
	if err != api.OK || !plainSame(got, l) || !block.Same(got, l) || !block.Same(l, got) {
		t.Fatalf("Take of the bytes of %s: %s, %d", short(l), short(got), err)
	}
	sum := 0
	for _, one := range l {
		sum += len(one.Points)
	}
	if n, m := block.Count(got); n != len(l) || m != sum {
		t.Fatalf("Count of %s: %d, %d", short(l), n, m)
	}
	return b
}

// mustRefuse asks Right and Put of series that are not right.
func mustRefuse(t *testing.T, l []api.Series, want api.Errno) {
	t.Helper()
	if err := block.Right(l); err != want {
		t.Errorf("Right of %s: %d, want %d", short(l), err, want)
	}
	if b, err := block.Put(l); err != want || len(b) > 0 {
		t.Errorf("Put of %s: %s, %d, want %d", short(l), short(b), err, want)
	}
}

// mustSpoil asks Take of bytes that are no block.
func mustSpoil(t *testing.T, b []byte, want api.Errno) {
	t.Helper()
	if l, err := block.Take(b); err != want || len(l) > 0 {
		t.Errorf("Take of %q: %s, %d, want %d", b[:min(len(b), 500)], short(l), err, want)
	}
}

// mustTake asks Take of any bytes, and what it is to answer.
func mustTake(t *testing.T, b []byte) api.Errno {
	t.Helper()
	got, err := block.Take(b)
	want, wrong := plainTake(b)
	if err != wrong || !plainSame(got, want) {
		t.Fatalf("Take of %q: %s, %d, want %s, %d", b[:min(len(b), 500)], short(got), err, short(want), wrong)
	}
	return err
}
