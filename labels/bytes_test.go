package labels_test

import (
	"bytes"
	"encoding/binary"
	"slices"
	"strings"
	"testing"

	"manometer/api"
	"manometer/hash"
	"manometer/labels"
)

// plainPut is the bytes of any labels, right or not.
func plainPut(l api.Labels) []byte {
	b := binary.AppendUvarint(nil, uint64(len(l)))
	for _, one := range l {
		b = append(binary.AppendUvarint(b, uint64(len(one.Name))), one.Name...)
		b = append(binary.AppendUvarint(b, uint64(len(one.Value))), one.Value...)
	}
	return b
}

// P5.4

func TestPutOfSome(t *testing.T) {
	for _, c := range []struct {
		l    api.Labels
		want string
	}{
		{nil, "\x00"},
		{api.Labels{}, "\x00"},
		{of("a", "1"), "\x01\x01a\x011"},
		{of("a", "1", "bc", "xyz"), "\x02\x01a\x011\x02bc\x03xyz"},
		{of("_", "ä"), "\x01\x01_\x02ä"},
		{of("a", strings.Repeat("v", 127)), "\x01\x01a\x7f" + strings.Repeat("v", 127)},
		{of(strings.Repeat("n", 64), strings.Repeat("v", 128)), "\x01\x40" + strings.Repeat("n", 64) + "\x80\x01" + strings.Repeat("v", 128)},
	} {
		got, err := labels.Put(c.l)
		if string(got) != c.want || err != api.OK {
			t.Errorf("Put of %q: %q and %d, want %q", c.l, got, err, c.want)
		}
	}
	for _, l := range rights() {
		got, err := labels.Put(l)
		if !bytes.Equal(got, plainPut(l)) || err != api.OK {
			t.Errorf("Put of %q: %q and %d", l, got, err)
		}
	}
}

func TestPutAndHashRefuse(t *testing.T) {
	for _, c := range wrongs() {
		if got, err := labels.Put(c.l); len(got) != 0 || err != c.want {
			t.Errorf("Put of %q: %q and %d, want %d", c.l, got, err, c.want)
		}
		if got, err := labels.Hash(c.l); got != 0 || err != c.want {
			t.Errorf("Hash of %q: %x and %d, want %d", c.l, got, err, c.want)
		}
	}
}

func mustNotTake(t *testing.T, b []byte, want api.Errno) {
	t.Helper()
	if got, n, err := labels.Take(b); len(got) != 0 || n != 0 || err != want {
		t.Errorf("Take of %q: %q, %d and %d, want %d", b, got, n, err, want)
	}
}

func TestTakeRefuses(t *testing.T) {
	most := "\xff\xff\xff\xff\xff\xff\xff\xff\xff\x01"  // 2^64 - 1
	over := "\xff\xff\xff\xff\xff\xff\xff\xff\xff\x02"  // more than 64 bits
	minus := "\x80\x80\x80\x80\x80\x80\x80\x80\x80\x01" // 2^63
	long := "\x40" + strings.Repeat("n", 64)
	for _, c := range []struct {
		b    string
		want api.Errno
	}{
		{"", api.ErrShort},
		{"\x80", api.ErrShort},
		{"\x80\x00", api.ErrForm},
		{"\x81\x00\x01a\x011", api.ErrForm},
		{over, api.ErrOver},
		{most, api.ErrLong},
		{minus, api.ErrLong},
		{"\x11", api.ErrLong},
		{"\x11\x80\x00", api.ErrLong},
		{"\x80\x01", api.ErrLong},
		{string(plainPut(many(17))), api.ErrLong},

		{"\x01", api.ErrShort},
		{"\x10", api.ErrShort},
		{"\x01\x80", api.ErrShort},
		{"\x01\x81\x00a\x011", api.ErrForm},
		{"\x01" + over, api.ErrOver},
		{"\x01" + most, api.ErrLong},
		{"\x01" + minus, api.ErrLong},
		{"\x01\x41", api.ErrLong},
		{"\x01\x41" + strings.Repeat("n", 65) + "\x011", api.ErrLong},
		{"\x01\x80\x01", api.ErrLong},
		{"\x01\x40", api.ErrShort},
		{"\x01\x40" + strings.Repeat("n", 63), api.ErrShort},
		{"\x01\x02a", api.ErrShort},

		{"\x01\x01a", api.ErrShort},
		{"\x01\x01a\x80", api.ErrShort},
		{"\x01\x01a\x81\x00" + "1", api.ErrForm},
		{"\x01\x01a" + over, api.ErrOver},
		{"\x01\x01a" + most, api.ErrLong},
		{"\x01\x01a" + minus, api.ErrLong},
		{"\x01\x01a\x81\x01", api.ErrLong},
		{"\x01" + long + "\x81\x01" + strings.Repeat("v", 129), api.ErrLong},
		{"\x01\x01a\x80\x01", api.ErrShort},
		{"\x01\x01a\x80\x01" + strings.Repeat("v", 127), api.ErrShort},
		{"\x01\x01a\x021", api.ErrShort},

		// What comes first, from the left, and what Right says only behind it all.
		{"\x02\x01a\x011", api.ErrShort},
		{"\x02\x01-\x00", api.ErrShort},
		{"\x02\x01-\x00\x41", api.ErrLong},
		{"\x02\x01b\x01\xff\x01a", api.ErrShort},
		{"\x02\x01b\x01\xff\x01a\x81\x00", api.ErrForm},
		{"\x02\x01b\x02v", api.ErrShort},
		{"\x02\x41\x80\x00", api.ErrLong},
		{"\x02\x01a\x81\x01\x80\x00", api.ErrLong},
		{"\x01\x00\x011", api.ErrName},
		{"\x01\x00\x00", api.ErrName},
		{"\x01\x01a\x00", api.ErrValue},
		{"\x01\x01a\x01\xff", api.ErrValue},
		{"\x01\x01a\x01\xff behind", api.ErrValue},
		{"\x02\x01a\x00\x01-\x00", api.ErrValue},
		{"\x02\x01b\x011\x01a\x011", api.ErrOrder},
		{"\x02\x01a\x011\x01a\x011", api.ErrOrder},
	} {
		mustNotTake(t, []byte(c.b), c.want)
	}
	for _, c := range wrongs() {
		want := c.want
		for _, one := range c.l {
			if len(one.Name) > api.MaxName || len(one.Value) > api.MaxValue {
				want = api.ErrLong
			}
		}
		mustNotTake(t, plainPut(c.l), want)
		mustNotTake(t, append(plainPut(c.l), 0), want)
	}
}

// P5.4 and P5.6

func TestBytesThereAndBack(t *testing.T) {
	for _, l := range rights() {
		b, err := labels.Put(l)
		if err != api.OK {
			t.Fatal(err)
		}
		for _, behind := range []string{"", "\x00", "\x80", "\xff\xff", "\x01a", string(b)} {
			asked := append(slices.Clone(b), behind...)
			got, n, err := labels.Take(asked)
			if n != len(b) || err != api.OK {
				t.Errorf("Take of %q: %d and %d, want %d", asked, n, err, len(b))
			}
			mustBe(t, got, l, "Take", asked)
		}
		for i := range b {
			mustNotTake(t, b[:i], api.ErrShort)
		}
	}
}

func TestBytesTakenAreThosePut(t *testing.T) {
	told := map[bool]int{}
	for _, l := range rights() {
		b := plainPut(l)
		for i := range min(len(b), 40) {
			for x := range 256 {
				for _, asked := range [][]byte{
					slices.Concat(b[:i], []byte{byte(x)}, b[i+1:]),
					slices.Concat(b[:i], []byte{byte(x)}, b[i:]),
				} {
					got, n, err := labels.Take(asked)
					told[err == api.OK]++
					if err != api.OK {
						mustNotTake(t, asked, err)
						continue
					}
					again, err := labels.Put(got)
					if err != api.OK || !bytes.Equal(again, asked[:n]) {
						t.Errorf("%q was taken of %q, but put %q and %d", got, asked[:n], again, err)
					}
				}
			}
		}
	}
	if told[true] < 1000 || told[false] < 1000 {
		t.Error("what was asked tells little", told)
	}
}

// R4

func TestTakeKeepsAndChangesNothing(t *testing.T) {
	l := of("a", "1", "b", "xyz")
	was := plainPut(l)
	b := slices.Clone(was)
	got, _, err := labels.Take(b)
	if err != api.OK || !bytes.Equal(b, was) {
		t.Errorf("%q has become %q", was, b)
	}
	clear(b)
	mustBe(t, got, l, "Take of bytes that change then")
}

// P5.5

// The sums were reckoned by another program.
func TestHashOfSome(t *testing.T) {
	for _, c := range []struct {
		l    api.Labels
		want uint64
	}{
		{nil, 0xef46db3751d8e999},
		{api.Labels{}, 0xef46db3751d8e999},
		{of("a", "1"), 0x6577cd4df75e4415},
		{of("a", "1", "b", "2"), 0xcc47a7b231134517},
		{of("__name__", "up", "job", "x", "zone", "ä\n\""), 0x355d552fd35ed6d4},
		{of("A", "b", "a", "B"), 0x0d74b249d681981e},
	} {
		if got, err := labels.Hash(c.l); got != c.want || err != api.OK {
			t.Errorf("Hash of %q: %016x and %d, want %016x", c.l, got, err, c.want)
		}
	}
}

func TestHashIsThatOfAllTexts(t *testing.T) {
	seen := map[uint64]int{}
	for _, l := range rights() {
		var text []byte
		for _, one := range l {
			text = slices.Concat(text, []byte(one.Name), []byte{0xff}, []byte(one.Value), []byte{0xff})
		}
		got, err := labels.Hash(l)
		if got != hash.XX(text) || err != api.OK {
			t.Errorf("Hash of %q: %016x and %d", l, got, err)
		}
		seen[got]++
	}
	if len(seen) != len(rights()) {
		t.Error("labels with the same sum", len(seen))
	}
}
