package block

import (
	"manometer/api"
	"manometer/bits"
	"manometer/frame"
	"manometer/labels"
	"manometer/xor"
)

// mark is what a block begins with.
const mark = "mnb1"

// sealSize is how many bytes the sum at a block's end takes.
const sealSize = 4

// Put is the series as a block's bytes.
func Put(l []api.Series) ([]byte, api.Errno) {
	if err := Right(l); err != api.OK {
		return nil, err
	}
	b := []byte(mark)
	write := func(part []byte) { b = append(b, part...) }
	write(bits.PutUvarint(uint64(len(l))))
	for _, one := range l {
		putSeries(one, write)
	}
	write(seal(b))
	return b, api.OK
}

// seal is the sum of what stands ahead of it, as bytes.
func seal(b []byte) []byte {
	sum := frame.Mask(frame.Sum(b))
	return []byte{byte(sum), byte(sum >> 8), byte(sum >> 16), byte(sum >> 24)}
}

// putSeries writes a series. No error is left to be told: that it is right was asked ahead, and a chunk has room for ChunkLen samples.
func putSeries(one api.Series, write func([]byte)) {
	write(bits.PutUvarint(uint64(one.Ref)))
	set, _ := labels.Put(one.Labels)
	write(set)
	write(bits.PutUvarint(uint64(len(one.Points))))
	for from := 0; from < len(one.Points); from += api.ChunkLen {
		to := min(from+api.ChunkLen, len(one.Points))
		chunk, _ := xor.Put(samples(one.Points[from:to:to]))
		write(bits.PutUvarint(uint64(len(chunk))))
		write(chunk)
	}
	var last uint64
	for _, p := range one.Points {
		write(bits.PutVarint(int64(p.Seq - last)))
		last = p.Seq
	}
}

// samples are the points without the numbers of the writes that they came by, which stand behind all chunks.
func samples(l []api.Point) []api.Sample {
	s := make([]api.Sample, len(l))
	for i, p := range l {
		s[i] = api.Sample{T: p.T, V: p.V}
	}
	return s
}
