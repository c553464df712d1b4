package xor

import (
	"manometer/api"
	"manometer/bits"
)

// maxBytes is how many bytes a number in few bytes has at most.
const maxBytes = 10

// reader takes a chunk's bits one by one; once something is amiss it takes no more, so that what was met first is told.
type reader struct {
	*bits.Reader
	err    api.Errno
	window window
}

// unpacked is the samples that b begins with, whether or not other bytes are put for them.
func unpacked(b []byte) ([]api.Sample, api.Errno) {
	row, err := bits.NewReader(b, 8*len(b))
	if err != api.OK {
		return nil, err
	}
	r := reader{Reader: row}
	l := r.samples(int(r.take(16)))
	if r.err != api.OK {
		return nil, r.err
	}
	return l, api.OK
}

// fail keeps what is amiss, if nothing was before.
func (r *reader) fail(err api.Errno) {
	if r.err == api.OK {
		r.err = err
	}
}

// take is the next width bits.
func (r *reader) take(width int) uint64 {
	if r.err != api.OK {
		return 0
	}
	n, err := r.Get(width)
	r.fail(err)
	return n
}

// samples is the next count samples, up to where something is amiss.
func (r *reader) samples(count int) []api.Sample {
	var l []api.Sample
	var last api.Sample
	var step uint64
	for i := range count {
		switch i {
		case 0:
			last.T = bits.Zag(r.number())
			last.V = r.take(64)
		case 1:
			step = r.number()
			last.T += int64(step)
			last.V ^= r.turn()
		default:
			step += r.change()
			last.T += int64(step)
			last.V ^= r.turn()
		}
		if r.err != api.OK {
			return l
		}
		l = append(l, last)
	}
	return l
}

// number is the next number in few bytes.
func (r *reader) number() uint64 {
	var b []byte
	for range maxBytes {
		x := byte(r.take(8))
		b = append(b, x)
		if x < 0x80 {
			break
		}
	}
	n, _, err := bits.Uvarint(b)
	if err != api.OK {
		r.fail(api.ErrForm)
	}
	return n
}

// change is the next change of a step, told how wide by the bits 1 ahead of it.
func (r *reader) change() uint64 {
	ones := 0
	for range len(widths) - 1 {
		if r.take(1) == 0 {
			break
		}
		ones++
	}
	width := widths[ones]
	return signed(r.take(width), width)
}

// turn is V's next turn.
func (r *reader) turn() uint64 {
	if r.take(1) == 0 {
		return 0
	}
	if r.take(1) == 1 {
		lead, width := int(r.take(5)), int(r.take(6))
		if width == 0 {
			width = 64
		}
		if lead+width > 64 {
			r.fail(api.ErrForm)
			return 0
		}
		r.window = window{lead: lead, width: width}
	}
	if r.window.width == 0 { // none was set
		r.fail(api.ErrForm)
		return 0
	}
	return r.take(r.window.width) << r.window.trail()
}
