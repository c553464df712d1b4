package record_test

import (
	"bytes"
	"math"
	"slices"
	"strings"
	"testing"

	"manometer/api"
	"manometer/record"
	"manometer/sample"
)

// P13.2

func TestPutOfSome(t *testing.T) {
	zeros := strings.Repeat("\x00", 8)
	for _, c := range []struct {
		r    api.Record
		want string
	}{
		{series(1, of("a", "x")), "\x01\x01\x01\x01a\x01x"},
		{series(1, nil), "\x01\x01\x00"},
		{series(300, nil), "\x01\xac\x02\x00"},
		{series(math.MaxUint32, nil), "\x01\xff\xff\xff\xff\x0f\x00"},
		{came(at(1, 5, 0, 1)), "\x02\x01\x02\x0a\x02" + zeros},
		{came(at(1, -5, 0x0102030405060708, 1)), "\x02\x01\x02\x09\x02\x01\x02\x03\x04\x05\x06\x07\x08"},
		{came(at(1, 5, 0, 1), at(1, 5, 0, 1)), "\x02\x02\x02\x0a\x02" + zeros + "\x00\x00\x00" + zeros},
		{came(at(3, 5, 0, 9), at(1, 6, 0, 8)), "\x02\x02\x06\x0a\x12" + zeros + "\x03\x02\x01" + zeros},
		{came(at(1, 0, 0, math.MaxUint64)), "\x02\x01\x02\x00\x01" + zeros}, // it is -1 ahead of 0
		{came(at(1, 0, 0, 1), at(1, 0, 0, math.MaxUint64)), "\x02\x02\x02\x00\x02" + zeros + "\x00\x00\x03" + zeros},
		{came(at(1, 0, 0, 1<<63)), "\x02\x01\x02\x00\xff\xff\xff\xff\xff\xff\xff\xff\xff\x01" + zeros},
		{came(at(1, math.MaxInt64, 0, 1), at(1, math.MinInt64, 0, 1)), "\x02\x02\x02\xfe\xff\xff\xff\xff\xff\xff\xff\xff\x01\x02" + zeros + "\x00\x02\x00" + zeros},
		{came(at(math.MaxUint32, 0, 0, 1), at(1, 0, 0, 1)), "\x02\x02\xfe\xff\xff\xff\x1f\x00\x02" + zeros + "\xfb\xff\xff\xff\x1f\x00\x00" + zeros},
	} {
		got, err := record.Put(c.r)
		if string(got) != c.want || err != api.OK {
			t.Errorf("Put of %v: %x and %d, want %x", c.r, got, err, c.want)
		}
		mustTake(t, []byte(c.want), c.r)
	}
}

func TestPutAndSize(t *testing.T) {
	for _, r := range rights() {
		got, err := record.Put(r)
		if want := plainBytes(r); !bytes.Equal(got, want) || err != api.OK {
			t.Fatalf("Put of %v: %x and %d, want %x", r, got, err, want)
		}
		if n := record.Size(r); n != len(got) {
			t.Fatalf("Size of %v: %d, want %d", r, n, len(got))
		}
	}
	for _, c := range wrongs() {
		if got, err := record.Put(c.r); len(got) != 0 || err != c.want {
			t.Errorf("Put of %v: %x and %d, want %d", c.r, got, err, c.want)
		}
		if n := record.Size(c.r); n != 0 {
			t.Errorf("Size of %v: %d", c.r, n)
		}
	}
}

// P13.3

func TestTakeRefuses(t *testing.T) {
	zeros := strings.Repeat("\x00", 8)
	most := "\xff\xff\xff\xff\xff\xff\xff\xff\xff\x01" // 2^64 - 1, or -2^63
	over := "\xff\xff\xff\xff\xff\xff\xff\xff\xff\x02" // more than 64 bits
	one := "\x02\x00\x02" + zeros                      // a point of series 1, T 0, Seq 1
	for _, c := range []struct {
		b    string
		want api.Errno
	}{
		{"", api.ErrShort},
		{"\x00", api.ErrRecord}, {"\x03", api.ErrRecord}, {"\xff", api.ErrRecord}, {"\x81", api.ErrRecord},
		{"\x00\x80\x00", api.ErrRecord}, {"\x03\x01" + one, api.ErrRecord}, {"\x82\x00", api.ErrRecord},

		{"\x01", api.ErrShort}, {"\x01\x80", api.ErrShort}, {"\x01\x80\x00", api.ErrForm}, {"\x01" + over, api.ErrOver},
		{"\x01\x00", api.ErrArg}, {"\x01\x00\x80\x00", api.ErrArg}, {"\x01\x80\x80\x80\x80\x10", api.ErrArg}, {"\x01\x81\x80\x80\x80\x10\x00", api.ErrArg}, {"\x01" + most + "\x00", api.ErrArg},
		{"\x01\x01", api.ErrShort}, {"\x01\x01\x80\x00", api.ErrForm}, {"\x01\x01\x11", api.ErrLong}, {"\x01\x01" + over, api.ErrOver},
		{"\x01\x01\x01\x01a", api.ErrShort}, {"\x01\x01\x01\x01a\x00", api.ErrValue}, {"\x01\x01\x01\x00\x01x", api.ErrName},
		{"\x01\x01\x02\x01b\x01x\x01a\x01x", api.ErrOrder}, {"\x01\x01\x02\x01b\x01x\x01a\x01x!", api.ErrOrder}, {"\x01\x01\x01\x41", api.ErrLong},
		{"\x01\x01\x00\x00", api.ErrForm}, {"\x01\x01\x01\x01a\x01x\x00", api.ErrForm}, {"\x01\x01\x01\x01a\x01x" + one, api.ErrForm},

		{"\x02", api.ErrShort}, {"\x02\x80", api.ErrShort}, {"\x02\x81\x00" + one, api.ErrForm}, {"\x02" + over, api.ErrOver},
		{"\x02\x81\x02", api.ErrLong}, {"\x02\x80\x80\x04" + one, api.ErrLong}, {"\x02" + most, api.ErrLong}, {"\x02\xff\xff\xff\xff\xff\xff\xff\xff\x7f", api.ErrLong}, {"\x02\x81\x80\x80\x80\x10" + one, api.ErrLong},
		{"\x02\x00", api.ErrArg}, {"\x02\x00" + one, api.ErrArg},
		{"\x02\x80\x02", api.ErrShort}, {"\x02\x01", api.ErrShort}, {"\x02\x01\x80", api.ErrShort}, {"\x02\x01\x82\x00\x02" + zeros, api.ErrForm}, {"\x02\x01" + over, api.ErrOver},
		{"\x02\x01\x00", api.ErrArg}, {"\x02\x01\x01", api.ErrArg}, {"\x02\x01\x00\x80\x00", api.ErrArg}, {"\x02\x01\x80\x80\x80\x80\x20", api.ErrArg}, {"\x02\x01\x82\x80\x80\x80\x20\x00\x02" + zeros, api.ErrArg}, {"\x02\x01" + most, api.ErrArg}, {"\x02\x01\xfe\xff\xff\xff\xff\xff\xff\xff\xff\x01", api.ErrArg},
		{"\x02\x01\x02", api.ErrShort}, {"\x02\x01\x02\xff", api.ErrShort}, {"\x02\x01\x02\x80\x00\x02" + zeros, api.ErrForm}, {"\x02\x01\x02" + over, api.ErrOver},
		{"\x02\x01\x02\x00", api.ErrShort}, {"\x02\x01\x02\x00\x80", api.ErrShort}, {"\x02\x01\x02\x00\x82\x00" + zeros, api.ErrForm}, {"\x02\x01\x02\x00" + over, api.ErrOver},
		{"\x02\x01\x02\x00\x00", api.ErrArg}, {"\x02\x01\x02\x00\x00" + zeros, api.ErrArg},
		{"\x02\x01\x02\x00\x02", api.ErrShort}, {"\x02\x01\x02\x00\x02" + zeros[:7], api.ErrShort},
		{"\x02\x01" + one + "\x00", api.ErrForm}, {"\x02\x01" + one + one, api.ErrForm}, {"\x02\x01" + one + "\x80", api.ErrForm},

		// of the second point what comes out counts, not what is told
		{"\x02\x02" + one, api.ErrShort},
		{"\x02\x02" + one + "\x01\x00\x00" + zeros, api.ErrArg},                 // Ref 0
		{"\x02\x02" + one + "\x03\x00\x00" + zeros, api.ErrArg},                 // Ref -1
		{"\x02\x02" + one + "\xfe\xff\xff\xff\x1f\x00\x00" + zeros, api.ErrArg}, // Ref 2^32
		{"\x02\x02" + one + "\x00\x00\x01" + zeros, api.ErrArg},                 // Seq 0
		{"\x02\x02" + one + "\x00\x00\x01", api.ErrArg},
		{"\x02\x02" + one + "\x01\x80\x00", api.ErrArg},
		{"\x02\x02" + one + "\x00\x80\x00", api.ErrForm},
		{"\x02\x02" + one + "\x00\x00\x00" + zeros[:7], api.ErrShort},
		{"\x02\x02\x00", api.ErrArg},
		{"\x02\x03" + one + one + "\x05", api.ErrArg},
	} {
		if _, err := plainTake([]byte(c.b)); err != c.want {
			t.Errorf("what is asked is amiss: %x, %d and not %d", c.b, err, c.want)
		}
		mustRefuse(t, []byte(c.b), c.want)
	}
}

func TestTakeOfWhatMayNotBe(t *testing.T) {
	for _, c := range wrongs() {
		if c.r.Kind != api.RcPoints && c.r.Kind != api.RcSeries || c.r.Kind == api.RcSeries && len(c.r.Points) > 0 || c.r.Kind == api.RcPoints && (c.r.Ref > 0 || len(c.r.Labels) > 0) {
			continue // of such there are no bytes
		}
		if mustTakeLikePlain(t, plainBytes(c.r)) == api.OK {
			t.Errorf("the bytes of %v are taken", c.r)
		}
	}
}

// P13.4

func TestThereAndBack(t *testing.T) {
	for _, r := range rights() {
		b, err := record.Put(r)
		if err != api.OK {
			t.Fatal(r, err)
		}
		mustTake(t, b, r)
		for i := range b {
			mustRefuse(t, b[:i], api.ErrShort)
		}
		for _, more := range []string{"\x00", "\x80", "\x02", string(b)} {
			mustRefuse(t, append(slices.Clone(b), more...), api.ErrForm)
		}
	}
}

// spoilt calls with b of which a byte is another one, or one is more, or less.
func spoilt(b []byte, call func([]byte)) {
	for i := range min(len(b), 60) {
		for x := range 256 {
			call(slices.Concat(b[:i], []byte{byte(x)}, b[i+1:]))
			call(slices.Concat(b[:i], []byte{byte(x)}, b[i:]))
		}
		call(slices.Concat(b[:i], b[i+1:]))
	}
}

func TestTakeOfWhatIsSpoilt(t *testing.T) {
	told := map[api.Errno]int{}
	for _, r := range append(rights()[:12], drawn(20)...) {
		spoilt(plainBytes(r), func(b []byte) { told[mustTakeLikePlain(t, b)]++ })
	}
	for _, err := range []api.Errno{api.OK, api.ErrShort, api.ErrForm, api.ErrOver, api.ErrArg, api.ErrLong, api.ErrRecord, api.ErrName, api.ErrValue, api.ErrOrder} {
		if told[err] < 3 {
			t.Error("what was asked tells little", int(err), told[err])
		}
	}
}

func TestTakeOfAnyBytes(t *testing.T) {
	told := map[api.Errno]int{}
	for n := range 3 {
		for x := range 1 << (8 * n) {
			told[mustTakeLikePlain(t, []byte{1, byte(x), byte(x >> 8)}[:1+n])]++
			told[mustTakeLikePlain(t, []byte{2, byte(x), byte(x >> 8)}[:1+n])]++
		}
	}
	d := sample.Draws(14)
	parts := []string{"\x00", "\x01", "\x02", "\x03", "\x04", "\x80", "\x81", "\xff", "\x80\x02", strings.Repeat("\x00", 8), strings.Repeat("\xff", 9), "\x01a", "a", "\x01x"}
	for range 150000 {
		b := []byte{byte(1 + d.Below(2))}
		for range d.Below(12) {
			b = append(b, parts[d.Below(len(parts))]...)
		}
		told[mustTakeLikePlain(t, b)]++
	}
	for _, err := range []api.Errno{api.OK, api.ErrShort, api.ErrForm, api.ErrOver, api.ErrArg, api.ErrLong} {
		if told[err] < 100 {
			t.Error("what was asked tells little", int(err), told[err])
		}
	}
}

// P13.5

func TestPointsThatLieNearTakeFewBytes(t *testing.T) {
	for _, begin := range []api.Entry{at(1, 0, 0, 1), at(math.MaxUint32, math.MaxInt64-1, 7, math.MaxUint64), at(5, math.MinInt64, math.MaxUint64, 1<<63), at(77, -1, 1, 300)} {
		l := []api.Entry{begin}
		d := sample.Draws(15)
		for len(l) < api.MaxEntries {
			next := l[len(l)-1]
			if next.Point.T < math.MaxInt64 {
				next.Point.T += int64(d.Below(2))
			}
			next.Point.V = d.Next()
			ahead := record.Size(came(l...))
			l = append(l, next)
			more := 0
			if len(l) == 128 { // how many there are takes a byte more
				more = 1
			}
			if n := record.Size(came(l...)) - ahead - more; n > 11 || n < 8 {
				t.Fatalf("the point %v behind %v takes %d bytes", next, l[len(l)-2], n)
			}
		}
	}
}
