package record_test

import (
	"encoding/binary"
	"math"
	"slices"
	"strings"
	"testing"

	"manometer/api"
	"manometer/labels"
	"manometer/record"
	"manometer/sample"
)

// The plain form of the chapter's sentences, word by word.

// plainCheck is Check.
func plainCheck(r api.Record) api.Errno {
	if r.Kind != 1 && r.Kind != 2 {
		return api.ErrRecord
	}
	if r.Kind == 1 {
		if !(r.Ref >= 1 && len(r.Points) == 0) {
			return api.ErrArg
		}
		return labels.Right(r.Labels)
	}
	if !(r.Ref == 0 && len(r.Labels) == 0 && len(r.Points) >= 1) {
		return api.ErrArg
	}
	if len(r.Points) > 256 {
		return api.ErrLong
	}
	for _, one := range r.Points {
		if !(one.Ref >= 1 && one.Point.Seq >= 1) {
			return api.ErrArg
		}
	}
	return api.OK
}

// plainSame is Same.
func plainSame(a, b api.Record) bool {
	if a.Kind != b.Kind || a.Ref != b.Ref || len(a.Labels) != len(b.Labels) || len(a.Points) != len(b.Points) {
		return false
	}
	for i := range a.Labels {
		if a.Labels[i] != b.Labels[i] {
			return false
		}
	}
	for i := range a.Points {
		if a.Points[i] != b.Points[i] {
			return false
		}
	}
	return true
}

// plainBytes is the bytes of any record of a known kind, right or not.
func plainBytes(r api.Record) []byte {
	b := []byte{byte(r.Kind)}
	if r.Kind == 1 {
		b = binary.AppendUvarint(b, uint64(r.Ref))
		b = binary.AppendUvarint(b, uint64(len(r.Labels)))
		for _, one := range r.Labels {
			b = append(binary.AppendUvarint(b, uint64(len(one.Name))), one.Name...)
			b = append(binary.AppendUvarint(b, uint64(len(one.Value))), one.Value...)
		}
		return b
	}
	b = binary.AppendUvarint(b, uint64(len(r.Points)))
	ref, t, seq := int64(0), int64(0), int64(0)
	for _, one := range r.Points {
		b = binary.AppendVarint(b, int64(one.Ref)-ref)
		b = binary.AppendVarint(b, one.Point.T-t)
		b = binary.AppendVarint(b, int64(one.Point.Seq)-seq)
		b = binary.BigEndian.AppendUint64(b, one.Point.V)
		ref, t, seq = int64(one.Ref), one.Point.T, int64(one.Point.Seq)
	}
	return b
}

// plainUvarint is the number that b begins with, what stands behind it, and what is wrong.
func plainUvarint(b []byte) (uint64, []byte, api.Errno) {
	var n uint64
	for i, x := range b {
		if i == 9 && x > 1 {
			return 0, nil, api.ErrOver
		}
		n |= uint64(x&0x7f) << (7 * i)
		if x < 0x80 {
			if i > 0 && x == 0 {
				return 0, nil, api.ErrForm
			}
			return n, b[i+1:], api.OK
		}
	}
	return 0, nil, api.ErrShort
}

// plainVarint is likewise of a number with a sign.
func plainVarint(b []byte) (int64, []byte, api.Errno) {
	n, rest, err := plainUvarint(b)
	if n%2 == 1 {
		return -1 - int64(n/2), rest, err
	}
	return int64(n / 2), rest, err
}

// plainTake is Take.
func plainTake(b []byte) (api.Record, api.Errno) {
	if len(b) == 0 {
		return api.Record{}, api.ErrShort
	}
	r := api.Record{Kind: int(b[0])}
	if r.Kind != 1 && r.Kind != 2 {
		return api.Record{}, api.ErrRecord
	}
	n, b, err := plainUvarint(b[1:])
	if err != api.OK {
		return api.Record{}, err
	}
	if r.Kind == 1 {
		if n < 1 || n > 1<<32-1 {
			return api.Record{}, api.ErrArg
		}
		l, size, err := labels.Take(b)
		if err != api.OK {
			return api.Record{}, err
		}
		r.Ref, r.Labels, b = uint32(n), l, b[size:]
	} else {
		if n > 256 {
			return api.Record{}, api.ErrLong
		}
		if n == 0 {
			return api.Record{}, api.ErrArg
		}
		if r.Points, b, err = plainTakePoints(b, int(n)); err != api.OK {
			return api.Record{}, err
		}
	}
	if len(b) > 0 {
		return api.Record{}, api.ErrForm
	}
	return r, api.OK
}

func plainTakePoints(b []byte, n int) ([]api.Entry, []byte, api.Errno) {
	var l []api.Entry
	var ref, t, seq, step int64
	var err api.Errno
	for len(l) < n {
		if step, b, err = plainVarint(b); err != api.OK {
			return nil, nil, err
		}
		if ref += step; ref < 1 || ref > 1<<32-1 {
			return nil, nil, api.ErrArg
		}
		if step, b, err = plainVarint(b); err != api.OK {
			return nil, nil, err
		}
		t += step
		if step, b, err = plainVarint(b); err != api.OK {
			return nil, nil, err
		}
		if seq += step; seq == 0 {
			return nil, nil, api.ErrArg
		}
		if len(b) < 8 {
			return nil, nil, api.ErrShort
		}
		l = append(l, at(uint32(ref), t, binary.BigEndian.Uint64(b), uint64(seq)))
		b = b[8:]
	}
	return l, b, api.OK
}

// What is asked with.

// at is a point of a series.
func at(ref uint32, t int64, v, seq uint64) api.Entry {
	return api.Entry{Ref: ref, Point: api.Point{T: t, V: v, Seq: seq}}
}

// of is labels of names and values in turn.
func of(texts ...string) api.Labels {
	var l api.Labels
	for i := 0; i < len(texts); i += 2 {
		l = append(l, api.Label{Name: texts[i], Value: texts[i+1]})
	}
	return l
}

// series is the record of a series that begins.
func series(ref uint32, l api.Labels) api.Record {
	return api.Record{Kind: api.RcSeries, Ref: ref, Labels: l}
}

// came is the record of points that come.
func came(l ...api.Entry) api.Record { return api.Record{Kind: api.RcPoints, Points: l} }

// many is n points of one write.
func many(n int) []api.Entry {
	l := make([]api.Entry, n)
	for i := range l {
		l[i] = at(uint32(i/3+1), int64(i*i), uint64(i), 7)
	}
	return l
}

// wide is n labels, the longest ones that there may be.
func wide(n int) api.Labels {
	var l api.Labels
	for i := range n {
		l = append(l, of(strings.Repeat(string(rune('a'+i)), 64), strings.Repeat("v", 128))...)
	}
	return l
}

// edges are numbers at which bytes change, and at which signs and sizes do.
func edges() []uint64 {
	return []uint64{1, 2, 3, 63, 64, 65, 127, 128, 8191, 8192, 8193, 1 << 31, 1<<32 - 1, 1 << 32, 1<<63 - 1, 1 << 63, 1<<63 + 1, math.MaxUint64 - 1, math.MaxUint64}
}

// rights are records that may be.
func rights() []api.Record {
	l := []api.Record{series(1, nil), series(1, of("a", "x")), series(127, of("a", "x", "b", "ä")), series(128, of("__name__", "up")), series(1<<32-1, wide(16)), series(300, wide(1)), came(many(1)...), came(many(2)...), came(many(127)...), came(many(128)...), came(many(255)...), came(many(256)...)}
	for _, n := range edges() {
		for _, m := range edges() {
			a, b := uint32(n), uint32(m)
			l = append(l, came(at(max(a, 1), int64(n), m, m), at(max(b, 1), int64(m), n, n), at(max(a, 1), -int64(n), m, m)))
		}
		l = append(l, series(max(uint32(n), 1), of("a", "x")), came(at(1, int64(n), 0, 1)), came(at(1, 0, n, 1)), came(at(1, 0, 0, n)))
	}
	return append(l, drawn(400)...)
}

// drawn are n records that may be, which look like any.
func drawn(n int) []api.Record {
	d := sample.Draws(13)
	num := func() uint64 { return max(d.Next()>>d.Below(64), 1) }
	var l []api.Record
	for range n {
		var entries []api.Entry
		for range 1 + d.Below(5) {
			entries = append(entries, at(max(uint32(num()), 1), int64(num()*uint64(1-2*d.Below(2))), num()-1, num()))
		}
		l = append(l, came(entries...), series(max(uint32(num()), 1), of("a", strings.Repeat("x", 1+d.Below(128)))))
	}
	return l
}

// wrong is a record that may not be, and why.
type wrong struct {
	r    api.Record
	want api.Errno
}

func wrongs() []wrong {
	bad := of("a", "")
	return []wrong{
		{api.Record{}, api.ErrRecord},
		{api.Record{Kind: 3}, api.ErrRecord},
		{api.Record{Kind: -1}, api.ErrRecord},
		{api.Record{Kind: 257}, api.ErrRecord}, // its lowest byte is that of a series
		{api.Record{Kind: 258, Points: many(1)}, api.ErrRecord},
		{api.Record{Kind: math.MinInt + 1, Ref: 1}, api.ErrRecord},
		{api.Record{Kind: 0, Ref: 1, Labels: of("a", "x")}, api.ErrRecord},
		{api.Record{Kind: 3, Points: many(257)}, api.ErrRecord},

		{series(0, nil), api.ErrArg},
		{series(0, of("a", "x")), api.ErrArg},
		{series(0, bad), api.ErrArg},
		{api.Record{Kind: api.RcSeries, Ref: 1, Points: many(1)}, api.ErrArg},
		{api.Record{Kind: api.RcSeries, Ref: 1, Labels: bad, Points: many(1)}, api.ErrArg},
		{api.Record{Kind: api.RcSeries, Ref: 1, Labels: of("a", "x"), Points: []api.Entry{{}}}, api.ErrArg},
		{series(1, bad), api.ErrValue},
		{series(1, of("a", "\xff")), api.ErrValue},
		{series(1, of("", "x")), api.ErrName},
		{series(1, of("1", "x")), api.ErrName},
		{series(1, of("b", "x", "a", "x")), api.ErrOrder},
		{series(1, of("a", "x", "a", "x")), api.ErrOrder},
		{series(1, wide(17)), api.ErrLong},
		{series(1, of("a", strings.Repeat("v", 129))), api.ErrValue},

		{came(), api.ErrArg},
		{api.Record{Kind: api.RcPoints, Points: []api.Entry{}}, api.ErrArg},
		{api.Record{Kind: api.RcPoints, Ref: 1, Points: many(1)}, api.ErrArg},
		{api.Record{Kind: api.RcPoints, Ref: 1, Points: many(257)}, api.ErrArg},
		{api.Record{Kind: api.RcPoints, Labels: of("a", "x"), Points: many(1)}, api.ErrArg},
		{api.Record{Kind: api.RcPoints, Labels: bad, Points: many(257)}, api.ErrArg},
		{api.Record{Kind: api.RcPoints, Ref: 1, Labels: of("a", "x")}, api.ErrArg},
		{came(many(257)...), api.ErrLong},
		{came(many(1000)...), api.ErrLong},
		{came(append(many(256), at(0, 0, 0, 0))...), api.ErrLong},
		{came(at(0, 0, 0, 1)), api.ErrArg},
		{came(at(1, 0, 0, 0)), api.ErrArg},
		{came(at(0, 0, 0, 0)), api.ErrArg},
		{came(at(1, 5, 5, 1), at(0, 5, 5, 1)), api.ErrArg},
		{came(at(1, 5, 5, 1), at(1, 5, 5, 0)), api.ErrArg},
		{came(append(many(255), at(1, 0, 0, 0))...), api.ErrArg},
		{came(append(many(255), at(0, 0, 0, 1))...), api.ErrArg},
	}
}

func mustBe(t *testing.T, got, want api.Record, call string, of any) {
	t.Helper()
	if !plainSame(got, want) {
		t.Fatalf("%s of %v: %v, want %v", call, of, got, want)
	}
}

// mustTake asks that b is taken as r.
func mustTake(t *testing.T, b []byte, r api.Record) {
	t.Helper()
	got, err := record.Take(b)
	if err != api.OK {
		t.Fatalf("Take of %x: %d", b, err)
	}
	mustBe(t, got, r, "Take", b)
}

// mustRefuse asks that b is refused.
func mustRefuse(t *testing.T, b []byte, want api.Errno) {
	t.Helper()
	got, err := record.Take(b)
	if err != want {
		t.Fatalf("Take of %x: %d, want %d", b, err, want)
	}
	mustBe(t, got, api.Record{}, "Take", b)
}

// mustTakeLikePlain asks the same of Take and of the plain one, and tells what was told.
func mustTakeLikePlain(t *testing.T, b []byte) api.Errno {
	t.Helper()
	want, err := plainTake(b)
	if err != api.OK {
		mustRefuse(t, b, err)
		return err
	}
	mustTake(t, b, want)
	if again, err := record.Put(want); err != api.OK || !slices.Equal(again, b) {
		t.Fatalf("%x was taken, but put are %x and %d", b, again, err)
	}
	return api.OK
}
