package block

import (
	"bytes"
	"math"

	"manometer/api"
	"manometer/bits"
	"manometer/labels"
	"manometer/xor"
)

// Take is the series of which b is the block's bytes.
func Take(b []byte) ([]api.Series, api.Errno) {
	end := len(b) - sealSize
	switch {
	case end < len(mark)+1: // a byte of how many series there are, at least
		return nil, api.ErrShort
	case !bytes.HasPrefix(b, []byte(mark)):
		return nil, api.ErrForm
	case !bytes.Equal(b[end:], seal(b[:end])):
		return nil, api.ErrSum
	}
	r := reader{left: b[len(mark):end:end]}
	l := r.all()
	r.must(len(r.left) == 0, api.ErrForm)
	if r.err == api.OK {
		r.err = Right(l)
	}
	if r.err != api.OK {
		return nil, r.err
	}
	return l, api.OK
}

// reader goes through a block's bytes, up to where something is amiss.
type reader struct {
	left []byte
	err  api.Errno // the first one: behind it nothing is read, and all is 0
}

// must is given what has to be so, and the error if it isn't.
func (r *reader) must(is bool, err api.Errno) {
	if r.err == api.OK && !is {
		r.err = err
	}
}

// part is the next size bytes.
func (r *reader) part(size uint64) []byte {
	r.must(size <= uint64(len(r.left)), api.ErrShort)
	if r.err != api.OK {
		return nil
	}
	b := r.left[:size:size]
	r.left = r.left[size:]
	return b
}

// number is the next number in few bytes.
func (r *reader) number() uint64 {
	if r.err != api.OK {
		return 0
	}
	n, size, err := bits.Uvarint(r.left)
	r.left, r.err = r.left[size:], err
	return n
}

// step is the next number with a sign.
func (r *reader) step() uint64 {
	if r.err != api.OK {
		return 0
	}
	n, size, err := bits.Varint(r.left)
	r.left, r.err = r.left[size:], err
	return uint64(n)
}

// set is the next labels.
func (r *reader) set() api.Labels {
	if r.err != api.OK {
		return nil
	}
	l, size, err := labels.Take(r.left)
	r.left, r.err = r.left[size:], err
	return l
}

// all is the series, with how many they are ahead; what it tells of them counts, if nothing was amiss.
func (r *reader) all() []api.Series {
	count := r.number()
	r.must(count <= api.MaxSeries, api.ErrLong)
	var l []api.Series
series:
	for range count {
		ref := r.number()
		r.must(ref > 0 && ref <= math.MaxUint32, api.ErrArg)
		one := api.Series{Ref: uint32(ref), Labels: r.set(), Points: r.points()}
		var last uint64
		for i := 0; r.err == api.OK; i++ {
			if i == len(one.Points) {
				l = append(l, one)
				continue series
			}
			last += r.step()
			one.Points[i].Seq = last
		}
		return nil
	}
	return l
}

// points are the next points, with how many they are ahead, in chunks, still without the numbers of their writes.
func (r *reader) points() []api.Point {
	count := r.number()
	r.must(count <= api.MaxPoints, api.ErrLong)
	var l []api.Point
	for left := int(count); left > 0 && r.err == api.OK; left -= api.ChunkLen {
		for _, s := range r.chunk(min(left, api.ChunkLen)) {
			l = append(l, api.Point{T: s.T, V: s.V})
		}
	}
	return l
}

// chunk is the next chunk's samples, if it has as many.
func (r *reader) chunk(count int) []api.Sample {
	b := r.part(r.number())
	if r.err != api.OK {
		return nil
	}
	l, err := xor.Get(b)
	r.err = err
	r.must(len(l) == count, api.ErrArg)
	return l
}
