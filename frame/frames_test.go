package frame_test

import (
	"bytes"
	"math"
	"slices"
	"testing"

	"manometer/api"
	"manometer/bits"
	"manometer/frame"
	"manometer/sample"
)

// plainFrame is the frame of b, with its sum reckoned by the tests' own way.
func plainFrame(b []byte) []byte {
	return withSum(bits.PutUvarint(uint64(len(b))), b)
}

// withSum is the length and b with the sum of both, whether or not the length is right.
func withSum(length, b []byte) []byte {
	made := slices.Concat(length, b)
	sum := plainSum(made)
	sum = (sum>>15 | sum<<17) + 0xa282ead8
	return append(made, byte(sum), byte(sum>>8), byte(sum>>16), byte(sum>>24))
}

func mustPut(t *testing.T, b []byte) []byte {
	t.Helper()
	f, e := frame.Put(b)
	if e != api.OK || f == nil {
		t.Fatalf("Put of %d bytes: %d", len(b), e)
	}
	return f
}

func mustGet(t *testing.T, b, want []byte, size int) {
	t.Helper()
	if x, n, e := frame.Get(b); e != api.OK || n != size || !bytes.Equal(x, want) {
		t.Fatalf("Get: %d bytes, %d, %d, want %d bytes, %d", len(x), n, e, len(want), size)
	}
}

// mustFail asks Get, and All, which tells the same error beside nothing.
func mustFail(t *testing.T, b []byte, want api.Errno) {
	t.Helper()
	if x, n, e := frame.Get(b); len(x) != 0 || n != 0 || e != want {
		t.Fatalf("Get of %d bytes: %x %d %d, want error %d", len(b), x, n, e, want)
	}
	if len(b) > 0 {
		mustAll(t, b, nil, want)
	}
}

// mustAll asks for the frames of just these bytes, and that error behind them.
func mustAll(t *testing.T, b []byte, want [][]byte, err api.Errno) {
	t.Helper()
	size := 0
	for _, x := range want {
		size += len(plainFrame(x))
	}
	l, n, e := frame.All(b)
	if e != err || n != size || !slices.EqualFunc(l, want, bytes.Equal) {
		t.Fatalf("All of %d bytes: %d frames, %d, %d, want %d frames, %d, %d", len(b), len(l), n, e, len(want), size, err)
	}
}

// sizes are those around which the length needs another byte, and MaxFrame.
func sizes() []int {
	return []int{0, 1, 2, 5, 126, 127, 128, 129, 300, 16383, 16384, 16385, 1<<20 - 1, 1 << 20}
}

// P2.3

func TestPutBytes(t *testing.T) {
	for _, c := range []struct{ b, want []byte }{
		{nil, []byte{0, 0xd2, 0x8f, 0x25, 0x49}},
		{[]byte{}, []byte{0, 0xd2, 0x8f, 0x25, 0x49}},
		{[]byte{0}, []byte{1, 0, 0x5f, 0xb0, 0xce, 0x81}},
		{[]byte("a"), []byte{1, 'a', 0xb5, 0xcd, 0x0b, 0xa2}},
		{[]byte("123456789"), append([]byte("\x09123456789"), 0x3d, 0x58, 0x43, 0xd8)},
		{bytes.Repeat([]byte("x"), 300), slices.Concat([]byte{0xac, 2}, bytes.Repeat([]byte("x"), 300), []byte{0xa0, 0x17, 0xfa, 0xa9})},
	} {
		if f := mustPut(t, c.b); !bytes.Equal(f, c.want) {
			t.Errorf("Put(%x): %x, want %x", c.b, f, c.want)
		}
		mustGet(t, c.want, c.b, len(c.want))
	}
}

func TestPutAndSizeUpToMaxFrame(t *testing.T) {
	for _, n := range sizes() {
		b := sample.Bytes(n)
		f := mustPut(t, b)
		if !bytes.Equal(f, plainFrame(b)) {
			t.Fatalf("Put of %d bytes", n)
		}
		if frame.Size(n) != len(f) {
			t.Fatalf("Size(%d): %d, want %d", n, frame.Size(n), len(f))
		}
	}
	for n, want := range map[int]int{0: 5, 1: 6, 127: 132, 128: 134, 16383: 16389, 16384: 16391, 1 << 20: 1048583} {
		if frame.Size(n) != want {
			t.Fatalf("Size(%d): %d, want %d", n, frame.Size(n), want)
		}
	}
}

func TestPutAndSizeBeyondMaxFrame(t *testing.T) {
	for _, n := range []int{1<<20 + 1, 1<<20 + 2, 1 << 21, 1 << 24} {
		if f, e := frame.Put(make([]byte, n)); len(f) != 0 || e != api.ErrLong {
			t.Fatalf("Put of %d bytes: %d bytes, %d", n, len(f), e)
		}
	}
	for _, n := range []int{-1, -5, math.MinInt, 1<<20 + 1, 1 << 31, math.MaxInt - 4, math.MaxInt} {
		if frame.Size(n) != 0 {
			t.Fatalf("Size(%d): %d", n, frame.Size(n))
		}
	}
}

func TestGetUvarintsErrors(t *testing.T) {
	ff := bytes.Repeat([]byte{0xff}, 20)
	mustFail(t, nil, api.ErrShort)
	mustFail(t, []byte{}, api.ErrShort)
	for n := 1; n < 10; n++ {
		mustFail(t, ff[:n], api.ErrShort)
	}
	mustFail(t, ff[:10], api.ErrOver)
	mustFail(t, ff, api.ErrOver)
	mustFail(t, append(slices.Clone(ff[:9]), 2), api.ErrOver)
	for _, length := range [][]byte{{0x80, 0}, {0x85, 0}, {0x80, 0x80, 0}, {0x80, 0x80, 0x80, 0x80, 0}} {
		mustFail(t, length, api.ErrForm)
		mustFail(t, withSum(length, []byte("abcde")[:length[0]&0x7f]), api.ErrForm)
	}
}

func TestGetLengthAboveMaxFrame(t *testing.T) {
	for _, n := range []uint64{1<<20 + 1, 1<<20 + 2, 1 << 21, 1<<31 - 1, 1 << 31, 1<<32 - 1, 1 << 32, 1<<32 + 1, 1<<63 - 1, 1 << 63, math.MaxUint64 - 9, math.MaxUint64} {
		length := bits.PutUvarint(n)
		mustFail(t, length, api.ErrLong) // though the bytes are missing, too
		mustFail(t, withSum(length, []byte("a")), api.ErrLong)
	}
	whole := withSum(bits.PutUvarint(1<<20+1), sample.Bytes(1<<20+1))
	mustFail(t, whole, api.ErrLong)
	mustFail(t, bits.PutUvarint(1<<20), api.ErrShort) // which itself may be
}

func TestGetShort(t *testing.T) {
	for _, n := range []int{0, 1, 5, 127, 128, 300} {
		f := mustPut(t, sample.Bytes(n))
		for i := range f {
			mustFail(t, f[:i], api.ErrShort) // the bytes behind stand in memory, but not in the list
		}
		f[len(f)-4] ^= 1
		mustFail(t, f[:len(f)-1], api.ErrShort) // though the sum would be another one
		mustFail(t, f, api.ErrSum)
	}
	f := mustPut(t, sample.Bytes(1<<20))
	for _, i := range []int{2, 3, 1 << 20, len(f) - 5, len(f) - 4, len(f) - 1} {
		mustFail(t, f[:i], api.ErrShort)
	}
}

func TestGetSumAsItIsStored(t *testing.T) {
	b := []byte("abc")
	sum := plainSum(append([]byte{3}, b...))
	masked := frame.Mask(sum)
	lowest := append([]byte("\x03abc"), byte(masked), byte(masked>>8), byte(masked>>16), byte(masked>>24))
	highest := append([]byte("\x03abc"), byte(masked>>24), byte(masked>>16), byte(masked>>8), byte(masked))
	bare := append([]byte("\x03abc"), byte(sum), byte(sum>>8), byte(sum>>16), byte(sum>>24))
	own := frame.Mask(plainSum(b))
	without := append([]byte("\x03abc"), byte(own), byte(own>>8), byte(own>>16), byte(own>>24))
	mustGet(t, lowest, b, 8)
	mustFail(t, highest, api.ErrSum)
	mustFail(t, bare, api.ErrSum)
	mustFail(t, without, api.ErrSum) // the length counts, too
	mustFail(t, make([]byte, 5), api.ErrSum)
}

// P2.5

func TestGetWhateverStandsBehind(t *testing.T) {
	for _, n := range sizes() {
		b := sample.Bytes(n)
		f := plainFrame(b)
		for _, tail := range [][]byte{nil, {0}, {0xff}, {1, 2}, bytes.Repeat([]byte{0xff}, 20), f[:3], plainFrame([]byte("b"))} {
			mustGet(t, slices.Concat(f, tail), b, len(f))
		}
	}
}

func TestAllThatWasPut(t *testing.T) {
	mustAll(t, nil, nil, api.OK)
	mustAll(t, []byte{}, nil, api.OK)
	var parts [][]byte
	var whole []byte
	for _, n := range append(sizes(), 0, 0, 7) {
		parts = append(parts, sample.Bytes(n))
		whole = append(whole, mustPut(t, sample.Bytes(n))...)
		mustAll(t, whole, parts, api.OK)
	}
}

func TestAllOfManyFrames(t *testing.T) {
	parts := make([][]byte, 3000)
	var whole []byte
	for i := range parts {
		parts[i] = sample.Bytes(i % 140)
		whole = append(whole, plainFrame(parts[i])...)
	}
	mustAll(t, whole, parts, api.OK)
}

// P2.3, of All: the first error ends it, and what stands ahead is told.

func TestAllUpToTheFirstError(t *testing.T) {
	parts := [][]byte{[]byte("first"), nil, sample.Bytes(200)}
	sound := plainFrame([]byte("behind"))
	wrong := plainFrame([]byte("wrong"))
	wrong[2]++
	for _, c := range []struct {
		bad  []byte
		want api.Errno
	}{
		{[]byte{0x80, 0}, api.ErrForm},
		{bytes.Repeat([]byte{0xff}, 10), api.ErrOver},
		{bits.PutUvarint(1<<20 + 1), api.ErrLong},
		{bits.PutUvarint(1 << 20), api.ErrShort},
		{wrong, api.ErrSum},
	} {
		var ahead []byte
		for n := range len(parts) + 1 {
			mustAll(t, slices.Concat(ahead, c.bad), parts[:n], c.want)
			mustAll(t, slices.Concat(ahead, c.bad, sound), parts[:n], c.want) // no sound frame is looked for behind
			if n < len(parts) {
				ahead = append(ahead, plainFrame(parts[n])...)
			}
		}
	}
}

// P2.6

func TestEachByteBehindTheLengthCounts(t *testing.T) {
	for _, n := range []int{0, 1, 4, 130} {
		f := plainFrame(sample.Bytes(n))
		head := len(bits.PutUvarint(uint64(n)))
		for i := head; i < len(f); i++ {
			for x := range 255 {
				bad := slices.Clone(f)
				bad[i] += byte(x + 1)
				mustFail(t, bad, api.ErrSum)
			}
		}
	}
	f := plainFrame(sample.Bytes(1 << 20))
	for _, i := range []int{3, 4, 1000, 1 << 19, len(f) - 5, len(f) - 4, len(f) - 1} {
		bad := slices.Clone(f)
		bad[i] ^= 0x10
		mustFail(t, bad, api.ErrSum)
	}
}

// P2.7

func TestFramesCutOffAnywhere(t *testing.T) {
	parts := [][]byte{[]byte("one"), nil, sample.Bytes(130), {0}, {0xff, 0xff}, nil}
	var whole []byte
	ends := []int{0}
	for _, x := range parts {
		whole = append(whole, plainFrame(x)...)
		ends = append(ends, len(whole))
	}
	for i := range len(whole) + 1 {
		n := 0
		for n < len(parts) && ends[n+1] <= i {
			n++
		}
		want := api.ErrShort
		if ends[n] == i {
			want = api.OK
		}
		mustAll(t, whole[:i], parts[:n], want)
	}
}

// R4

func TestMemoryIsNotShared(t *testing.T) {
	b := []byte("abcdef")
	f := mustPut(t, b)
	want := slices.Clone(f)
	clear(b)
	if !bytes.Equal(f, want) {
		t.Fatal("Put's answer shares memory with what was handed in")
	}
	x, _, _ := frame.Get(f)
	clear(f)
	if string(x) != "abcdef" {
		t.Fatal("Get's answer shares memory with what was handed in")
	}
	whole := slices.Concat(want, want, want)
	l, _, _ := frame.All(whole)
	_ = append(l[0], "0123456789012345"...)
	clear(l[1])
	if !bytes.Equal(whole, slices.Concat(want, want, want)) {
		t.Fatal("All's answer shares memory with what was handed in")
	}
	clear(whole)
	if string(l[0]) != "abcdef" || string(l[2]) != "abcdef" {
		t.Fatalf("All's lists share memory: %q", l)
	}
}

func TestBytesHandedInAreNotChanged(t *testing.T) {
	roomy := append(make([]byte, 0, 64), "abc"...)
	behind := roomy[:64]
	mustPut(t, roomy)
	if string(roomy) != "abc" || !bytes.Equal(behind[3:], make([]byte, 61)) {
		t.Fatal("Put wrote into what was handed in, or behind it")
	}
	f := slices.Concat(plainFrame([]byte("abc")), plainFrame(nil))
	was := slices.Clone(f)
	frame.Get(f)
	frame.All(f)
	if !bytes.Equal(f, was) {
		t.Fatal("what was handed in is changed")
	}
}

// P1 of the whole: every call ends, whatever it is given.

func TestAnyBytesAreAnswered(t *testing.T) {
	for n := range 2000 {
		b := sample.Bytes(n % 50)
		if len(b) > 0 {
			b[0] = byte(n)
		}
		x, size, e := frame.Get(b)
		if e != api.OK && (len(x) != 0 || size != 0) {
			t.Fatalf("Get(%x): %x %d %d", b, x, size, e)
		}
		if e == api.OK && !bytes.Equal(b[:size], plainFrame(x)) {
			t.Fatalf("Get(%x) takes what Put does not make", b)
		}
		frame.All(b)
	}
}
