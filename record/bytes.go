package record

import (
	"math"

	"manometer/api"
	"manometer/bits"
	"manometer/labels"
)

// valueSize is how many bytes a value takes.
const valueSize = 8

// Put is a record's bytes.
func Put(r api.Record) ([]byte, api.Errno) {
	if err := Check(r); err != api.OK {
		return nil, err
	}
	b := []byte{byte(r.Kind)}
	if r.Kind == api.RcPoints {
		return append(b, putPoints(r.Points)...), api.OK
	}
	list, err := labels.Put(r.Labels)
	return append(append(b, bits.PutUvarint(uint64(r.Ref))...), list...), err
}

// putPoints is how many points there are, and each of them as what it has more than the one ahead.
func putPoints(l []api.Entry) []byte {
	b := bits.PutUvarint(uint64(len(l)))
	var last api.Entry
	for _, one := range l {
		p, q := one.Point, last.Point
		for _, step := range [...]uint64{uint64(one.Ref) - uint64(last.Ref), uint64(p.T) - uint64(q.T), p.Seq - q.Seq} {
			b = append(b, bits.PutVarint(int64(step))...)
		}
		b = append(b, putValue(p.V)...)
		last = one
	}
	return b
}

// putValue is a value's bytes, the highest one first.
func putValue(v uint64) []byte {
	b := make([]byte, valueSize)
	for i := range b {
		b[valueSize-1-i] = byte(v)
		v >>= 8
	}
	return b
}

// takeValue is the value of which b is the bytes.
func takeValue(b []byte) uint64 {
	var v uint64
	for _, x := range b {
		v = v<<8 | uint64(x)
	}
	return v
}

// Size is how many bytes a record has.
func Size(r api.Record) int {
	b, _ := Put(r)
	return len(b)
}

// Take is the record whose bytes are b.
func Take(b []byte) (api.Record, api.Errno) {
	if len(b) == 0 {
		return api.Record{}, api.ErrShort
	}
	r, size, err := take(int(b[0]), b[1:])
	if err == api.OK && 1+size < len(b) {
		err = api.ErrForm
	}
	if err != api.OK {
		return api.Record{}, err
	}
	return r, api.OK
}

// take is the record of a kind that b begins with, and how many bytes of b it takes.
func take(kind int, b []byte) (api.Record, int, api.Errno) {
	r := api.Record{Kind: kind}
	if kind != api.RcSeries && kind != api.RcPoints { // ahead of the number, which may be amiss, too
		return r, 0, api.ErrRecord
	}
	n, head, err := bits.Uvarint(b)
	if err == api.OK {
		err = headFault(kind, n)
	}
	if err != api.OK {
		return r, 0, err
	}
	var rest int
	if kind == api.RcSeries {
		r.Ref = uint32(n)
		r.Labels, rest, err = labels.Take(b[head:])
	} else {
		r.Points, rest, err = takePoints(b[head:], int(n))
	}
	return r, head + rest, err
}

// takePoints is the n points that b begins with, and how many bytes they take.
func takePoints(b []byte, n int) ([]api.Entry, int, api.Errno) {
	at := 0
	next := func(last uint64) (uint64, api.Errno) {
		step, size, err := bits.Varint(b[at:])
		at += size
		return last + uint64(step), err
	}
	value := func() (uint64, api.Errno) {
		if len(b)-at < valueSize {
			return 0, api.ErrShort
		}
		at += valueSize
		return takeValue(b[at-valueSize : at]), api.OK
	}
	l := make([]api.Entry, n)
	var last api.Entry
	for i := range n {
		one, err := takeEntry(last, next, value)
		if err != api.OK {
			return nil, 0, err
		}
		l[i], last = one, one
	}
	return l, at, api.OK
}

// takeEntry is the point behind last: next reads a number that is told by what it has more than the one ahead, value reads a value.
func takeEntry(last api.Entry, next func(uint64) (uint64, api.Errno), value func() (uint64, api.Errno)) (api.Entry, api.Errno) {
	ref, err := next(uint64(last.Ref))
	switch {
	case err != api.OK:
		return api.Entry{}, err
	case ref == 0 || ref > math.MaxUint32:
		return api.Entry{}, api.ErrArg
	}
	t, err := next(uint64(last.Point.T))
	if err != api.OK {
		return api.Entry{}, err
	}
	seq, err := next(last.Point.Seq)
	switch {
	case err != api.OK:
		return api.Entry{}, err
	case seq == 0:
		return api.Entry{}, api.ErrArg
	}
	v, err := value()
	if err != api.OK {
		return api.Entry{}, err
	}
	return api.Entry{Ref: uint32(ref), Point: api.Point{T: int64(t), V: v, Seq: seq}}, api.OK
}
