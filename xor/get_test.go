package xor_test

import (
	"bytes"
	"math"
	"slices"
	"strings"
	"testing"

	"manometer/api"
	"manometer/sample"
	"manometer/xor"
)

// Beginnings of chunks of the first sample 0 at the time 0, up to where the next one begins.
const (
	begun = " x00 x0000000000000000 "  // behind it stands the step of the second one
	even  = begun + " x00 0 "          // behind it stands the change of the third one
	still = begun + " x00 "            // behind it stands the turn of the second one
	nines = " xffffffffffffffffff "    // nine bytes with the highest bit
	spare = " x808080808080808080 "    // nine bytes of 0 with the highest bit
	whole = " xffffffff xffffffff "    // 64 bits 1
	none  = " x0000000000000000 "      // 64 bits 0
	wide  = " 11 00000 001000 xff "    // a turn with a window of the eight highest bits
	rest  = " 10 00000001 0 10 x80 "   // turns within that window, and a change of 0 between them
	many  = " 0 0 0 0 0 0 0 0 0 0 0 0" // changes and turns of 0
)

// P8.2

func TestGetOfWhatIsShort(t *testing.T) {
	for _, text := range []string{
		"", "x00", "xff", "x01", // ahead of the first 16 bits all else is nothing
		"x0001", "xffff", "x0100",
		"x0001 x80", "x0001 x8081", "x0001" + nines, "x0001" + spare, // amid the first time
		"x0001 x00", "x0001 x00 x00", "x0001 x00 x3ff00000000000", "x0001 xfe01 x3ff00000000000", // amid the first value
		"x0002" + begun, "x0002" + begun + "x80", "x0002" + begun + nines, "x0002" + begun + spare, // amid the step
		"x0002" + still, "x0002" + begun + "xac02", // ahead of the turn
		"x0002" + still + "11 00000 0", "x0002" + still + "11 11111 1", // amid the width
		"x0002" + still + "11 00000 001000 000",             // amid a turn of eight bits
		"x0002" + still + "11 00000 000000 xffffffffffffff", // amid one of 64
		"x0002" + still + "11 11111 100001 xffffff",         // amid one of 33
		"x0003" + still + wide + "0 10",                     // amid a turn within a window
		"x0003" + still + "11 11111 100001 x80000000 1 0 10 x01",
		"x0007" + still + "0 0 0 0 0 0 0 0", // behind four samples, amid the fifth one
		"x0006" + still + "0 0 0 0 0 0 0 0",
		"x0003" + still + "0 10 00000",                 // amid a change of 14 bits
		"x0003" + still + "0 110 0000",                 // of 17
		"x0003" + still + "0 110 0000 x00",             // of 17, of which 12 are there
		"x0003" + still + "0 1110 000 x00",             // of 20, of which 11 are there
		"x0003" + still + "0 1111 000 xffffffffffffff", // of 64, of which 59 are there
		"x0003" + still + "0 1111111",                  // the same, of which 3 are there
		"x0003" + still + wide + "0 1111",              // where its width is told at the end
		"x0003" + still + wide + "0 1110",
		"x0003" + even + "0 11 0000", // amid the lead of the third one
	} {
		b := chunk(text)
		if _, err := plainGet(b); err != api.ErrShort {
			t.Error("what is asked is amiss", text, err)
		}
		mustRefuse(t, b, api.ErrShort)
	}
}

func TestGetOfWhatHasNoForm(t *testing.T) {
	for _, text := range []string{
		// numbers that are none: beyond 64 bits, or with a last byte 0
		"x0001" + nines + "xff" + none, "x0001" + nines + "x80" + none, "x0001" + nines + "x02" + none, "x0001" + spare + "x02" + none, "x0001" + nines + "x7f" + none, "x0001" + spare + "x00" + none, "x0001 x8000" + none, "x0001 xff00" + none, "x0001 x818000" + none,
		"x0002" + begun + nines + "xff 0", "x0002" + begun + nines + "x02 0", "x0002" + begun + spare + "x00 0", "x0002" + begun + "x8000 0", "x0002" + begun + "xac8200 0",
		// though bits are missing behind them
		"x0001" + nines + "xff", "x0001" + nines + "x02", "x0001" + spare + "x00", "x0001 x8000", "x0009 x8000 x00", "x0002" + begun + nines + "x80", "x0002" + begun + "xff00", "xffff" + begun + "x8000",

		// a turn in a window, where none was set
		"x0002" + still + "10", "x0002" + still + "10" + whole + none, "x0002" + begun + "xac02 10 111111", "x0003" + even + "0 10", "x0003" + even + "0 10" + whole + none, "x0003" + still + "0 10 00000000000001 10 1", "x0009" + still + "10",

		// a lead and a width above 64
		"x0002" + still + "11 00001 000000" + whole + none, "x0002" + still + "11 11111 000000" + whole + none, "x0002" + still + "11 00010 111111" + whole + none, "x0002" + still + "11 11111 100010" + whole + none, "x0002" + still + "11 11111 111111" + whole + none, "x0002" + still + "11 10000 110001" + whole + none,
		"x0003" + still + wide + "0 11 00001 000000" + whole + none,
		// though bits are missing behind it
		"x0002" + still + "11 00001 000000", "x0002" + still + "11 11111 100010", "x0009" + still + "11 00010 111111 000", "x0003" + still + wide + "0 11 11111 111111",

		// bits behind the samples
		"x0000 x00", "x0000 x80", "x0000 x0000", "x0000" + whole, "x0001" + begun + "x00", "x0001" + begun + "x01", "x0001" + begun + "xff", "x0002" + even + "x00", "x0002" + still + "x40", "x0002" + still + "x01", "x0002" + still + "0 0000001", "x0002" + still + wide + "1", "x0002" + still + wide + "00001", "x0002" + still + wide + "x00", "x0003" + even + "00 00001", "x0001" + even, "x0000" + begun,

		// wider changes than there need be
		"x0003" + still + "0 10 00000000000000 0", "x0003" + still + "0 110 00000000000000000 0", "x0003" + still + "0 1110 x00000 0", "x0003" + still + "0 1111" + none + "0",
		"x0003" + still + "0 110 00000000000000001 0", "x0003" + still + "0 110 11111111111111111 0", "x0003" + still + "0 110 00010000000000000 0", "x0003" + still + "0 110 11110000000000001 0",
		"x0003" + still + "0 1110 x00001 0", "x0003" + still + "0 1110 xfffff 0", "x0003" + still + "0 1110 x10000 0", "x0003" + still + "0 1110 xf0001 0",
		"x0003" + still + "0 1111 x0000000000000001 0", "x0003" + still + "0 1111" + whole + "0", "x0003" + still + "0 1111 x0000000000080000 0", "x0003" + still + "0 1111 xfffffffffff80001 0",

		// turns of 0 that are told as others
		"x0002" + still + "11 00000 000001 0", "x0002" + still + "11 11111 100001 x00000000 0", "x0002" + still + "11 00000 000000" + none, "x0003" + still + wide + "0 10 x00", "x0003" + still + wide + "0 11 00000 001000 x00",

		// wider windows than there need be, and narrower ones than there may be
		"x0002" + still + "11 00000 000010 10", "x0002" + still + "11 00000 000010 01", "x0002" + still + "11 01000 001000 x7f", "x0002" + still + "11 01000 001000 xfe", "x0002" + still + "11 11110 000010 01", "x0002" + still + "11 11110 100010 x00000000 01", "x0002" + still + "11 00000 000000 x7fffffffffffffff", "x0002" + still + "11 00000 000000 xfffffffffffffffe", "x0002" + still + "11 11111 000011 010", "x0002" + still + "11 11111 100001 x80000000 0",

		// windows that are set, where the one that was holds the turn
		"x0003" + still + wide + "0" + wide, "x0003" + still + wide + "0 11 00000 000001 1", "x0003" + still + wide + "0 11 00111 000001 1", "x0003" + still + wide + "0 11 00010 000011 101", "x0004" + still + wide + "0 0 0" + wide,
	} {
		b := chunk(text)
		if _, err := plainGet(b); err != api.ErrForm {
			t.Error("what is asked is amiss", text, err)
		}
		mustRefuse(t, b, api.ErrForm)
	}
}

func TestGetOfSome(t *testing.T) {
	for _, c := range []struct {
		text string
		want []api.Sample
	}{
		{"x0000", nil},
		{"x0001 x00 x3ff0000000000000", []api.Sample{{T: 0, V: one}}},
		{"x0001" + nines + "x01" + whole, []api.Sample{{T: math.MinInt64, V: math.MaxUint64}}},
		{"x0001 xfeffffffffffffffff01" + none, []api.Sample{{T: math.MaxInt64}}},
		{"x0002" + still + "0", []api.Sample{{}, {}}},
		{"x0002" + begun + nines + "x01 0", []api.Sample{{}, {T: -1}}},
		{"x0003" + begun + nines + "x01 0 0 0", []api.Sample{{}, {T: -1}, {T: -2}}},
		{"x0003" + still + "0" + "10 10000000000000 0", []api.Sample{{}, {}, {T: 8192}}},
		{"x0003" + still + "0" + "10 10000000000001 0", []api.Sample{{}, {}, {T: -8191}}},
		{"x0004" + begun + "x05 0" + "110 00010000000000001 0 0 0", []api.Sample{{}, {T: 5}, {T: 5 + 8198}, {T: 5 + 2*8198}}},
		{"x0003" + still + "0" + "110 10000000000000000 0", []api.Sample{{}, {}, {T: 65536}}},
		{"x0003" + still + "0" + "1110 x80000 0", []api.Sample{{}, {}, {T: 524288}}},
		{"x0003" + still + "0" + "1110 x80001 0", []api.Sample{{}, {}, {T: -524287}}},
		{"x0003" + still + "0" + "1111 x8000000000000000 0", []api.Sample{{}, {}, {T: math.MinInt64}}},
		{"x0002" + still + wide, []api.Sample{{}, {V: 0xff << 56}}},
		{"x0004" + still + wide + " 0 " + rest, []api.Sample{{}, {V: 0xff << 56}, {V: 0xfe << 56}, {V: 0x7e << 56}}},
		{"x0003" + still + "0 10 00000000000001 0", []api.Sample{{}, {}, {T: 1}}},
		{"x0002" + still + "11 11111 100001 x80000000 1", []api.Sample{{}, {V: 1<<32 | 1}}},
		{"x0002" + still + "11 00000 000000 x8000000000000001", []api.Sample{{}, {V: 1<<63 | 1}}},
		{"x0008" + still + "0" + many, make([]api.Sample, 8)},
	} {
		mustHave(t, chunk(c.text), c.want)
	}
}

// What is met first counts, and that other bytes are put is asked last.
func TestGetTellsWhatIsMetFirst(t *testing.T) {
	for _, c := range []struct {
		text string
		want api.Errno
	}{
		{"x0003" + still + "0 10 00000000000000 0", api.ErrForm},           // a change that is wider than it need be
		{"x0005" + still + "0 10 00000000000000 0 1111111", api.ErrShort},  // and then bits are missing
		{"x0004" + still + "0 10 00000000000000 0 0 10", api.ErrForm},      // and then no window was set
		{"x0004" + still + "11 00000 000001 0 0 10 1 0 0 0", api.ErrForm},  // a turn of 0 that sets a window
		{"x0004" + still + "11 00000 111111 x00000000", api.ErrShort},      // and then bits are missing
		{"x0003" + still + "11 00000 111111" + none + " 10", api.ErrShort}, // and then those within that window
		{"x0003" + still + "11 00000 000010 01 1111", api.ErrShort},        // a wider window than there need be, and then bits are missing
		{"x0003" + still + "11 00000 000010 01 0 11 00010 111111 0", api.ErrForm},
		{"x0003" + still + wide + "0" + "11 00000 001000 x0", api.ErrShort}, // a window that is set again, and then bits are missing
		{"x0002" + begun + "x8000", api.ErrForm},                            // a number that is none, and then the turn is missing
		{"x0002" + begun + "x80", api.ErrShort},
	} {
		b := chunk(c.text)
		if _, err := plainGet(b); err != c.want {
			t.Error("what is asked is amiss", c.text, err)
		}
		mustRefuse(t, b, c.want)
	}
}

func TestGetLeavesItsBytes(t *testing.T) {
	b := plainPut(widest(9))
	kept := bytes.Clone(b)
	l, err := xor.Get(b)
	if err != api.OK || !bytes.Equal(b, kept) {
		t.Fatal("changed", err)
	}
	clear(b)
	other, err := xor.Get(kept)
	if err != api.OK {
		t.Fatal(err)
	}
	clear(other)
	if !slices.Equal(l, widest(9)) {
		t.Fatal("answers share memory")
	}
	mustHave(t, kept, widest(9))
}

// P8.4

func TestThereAndBack(t *testing.T) {
	d := sample.Draws(2)
	for range 3000 {
		l := some(d, d.Below(60))
		mustHave(t, mustPut(t, l), l)
	}
}

// mustBeAsPlain asks Get of any bytes.
func mustBeAsPlain(t *testing.T, b []byte) api.Errno {
	t.Helper()
	want, err := plainGet(b)
	if err != api.OK {
		mustRefuse(t, b, err)
		return err
	}
	mustHave(t, b, want)
	if !bytes.Equal(mustPut(t, want), b) {
		t.Fatalf("%x is got, and not put", b)
	}
	return api.OK
}

func TestGetOfChangedBits(t *testing.T) {
	d := sample.Draws(3)
	told := map[api.Errno]int{}
	for range 60 {
		b := plainPut(some(d, d.Below(12)))
		for i := range 8 * len(b) {
			other := bytes.Clone(b)
			other[i/8] ^= 0x80 >> (i % 8)
			told[mustBeAsPlain(t, other)]++
			told[mustBeAsPlain(t, other[:d.Below(len(other))])]++
		}
	}
	for _, err := range []api.Errno{api.OK, api.ErrShort, api.ErrForm} {
		if told[err] < 100 {
			t.Error("what was asked tells little", told)
		}
	}
}

func TestGetOfAnyBytes(t *testing.T) {
	d := sample.Draws(4)
	for size := range 400 {
		b := sample.Bytes(size)
		mustBeAsPlain(t, b)
		if size >= 2 {
			b[0], b[1] = 0, byte(d.Below(8))
			mustBeAsPlain(t, b)
		}
	}
	for range 2000 { // bits that are mostly 0, or mostly 1
		b := make([]byte, 2+d.Below(40))
		for i := range b {
			b[i] = byte(d.Next() & d.Next())
			if d.Below(4) == 0 {
				b[i] = ^b[i]
			}
		}
		b[0], b[1] = 0, byte(d.Below(6))
		mustBeAsPlain(t, b)
	}
}

// All that may stand in the bits behind even samples.
func TestNoOtherBytesSayTheSame(t *testing.T) {
	seen := map[string]bool{}
	for n := range 1 << 16 {
		b := chunk("x0003" + still + digits(uint64(n), 16))
		l, err := xor.Get(b)
		if want, plain := plainGet(b); err != plain || !slices.Equal(l, want) {
			t.Fatalf("%x: %v %d, want %v %d", b, l, err, want, plain)
		}
		if err != api.OK {
			continue
		}
		var key strings.Builder
		for _, s := range l {
			key.WriteString(digits(uint64(s.T), 64) + digits(s.V, 64))
		}
		if seen[key.String()] {
			t.Fatalf("other bytes than %x say the same", b)
		}
		seen[key.String()] = true
	}
	if len(seen) < 10 {
		t.Error("what was asked tells little", len(seen))
	}
}

// P8.5

func TestCutOffAnywhere(t *testing.T) {
	d := sample.Draws(5)
	for range 300 {
		b := mustPut(t, some(d, d.Below(40)))
		for cut := range b {
			mustRefuse(t, b[:cut], api.ErrShort)
		}
	}
}
