package wal_test

import (
	"math"
	"slices"
	"strings"
	"testing"

	"manometer/api"
	"manometer/disk"
	"manometer/sample"
	"manometer/wal"
)

func TestLimitsAndErrors(t *testing.T) {
	if api.MaxSegment != 4096 || api.MaxSegments != 99999999 || api.MaxFrame != 1<<20 || api.MaxFiles != 64 {
		t.Error("limits", api.MaxSegment, api.MaxSegments, api.MaxFrame, api.MaxFiles)
	}
	if api.ErrArg != 1 || api.ErrMade != 2 || api.ErrLong != 3 || api.ErrFull != 5 || api.ErrShort != 6 || api.ErrForm != 8 || api.ErrOver != 9 || api.ErrSum != 20 {
		t.Error(api.ErrArg, api.ErrMade, api.ErrLong, api.ErrFull, api.ErrShort, api.ErrForm, api.ErrOver, api.ErrSum)
	}
}

func TestTitle(t *testing.T) {
	for n, want := range map[int]string{
		1: "wal.00000001", 2: "wal.00000002", 9: "wal.00000009", 10: "wal.00000010", 12: "wal.00000012", 99: "wal.00000099", 100: "wal.00000100", 4096: "wal.00004096", 123456: "wal.00123456",
		1234567: "wal.01234567", 9999999: "wal.09999999", 10000000: "wal.10000000", 12345678: "wal.12345678", 99999998: "wal.99999998", 99999999: "wal.99999999",
		0: "", -1: "", -12345678: "", -1234567: "", 100000000: "", 100000001: "", 1<<32 + 1: "", math.MaxInt: "", math.MinInt: "",
	} {
		if got := wal.Title(n); got != want {
			t.Errorf("Title(%d): %q, want %q", n, got, want)
		}
	}
}

// P12.1

func TestWhatNoCallMade(t *testing.T) {
	for _, d := range []*disk.Disk{nil, {}, new(disk.Disk)} {
		if l, records, err := wal.Open(d); l != nil || records != nil || err != api.ErrMade {
			t.Error("Open", l, records, err)
		}
	}
	var none *wal.Log
	zero := &wal.Log{}
	for range 2 { // also behind all those calls it is what no call made
		for _, l := range []*wal.Log{none, zero, new(wal.Log)} {
			for _, a := range []act{appends(""), appends("a"), appends(strings.Repeat("x", 1<<20+1)), syncs(), rolls(), drops(0), drops(1), drops(-1), drops(math.MaxInt), drops(math.MinInt)} {
				if err := a.do(l); err != api.ErrMade {
					t.Error(a, err)
				}
			}
			if l.Count() != 0 || l.Sure() != 0 || l.Segment() != 0 || l.Segments() != nil || l.Size() != 0 {
				t.Error("what no call made has something", l.Count(), l.Sure(), l.Segment(), l.Segments(), l.Size())
			}
		}
	}
}

func TestOpenOfANewDisk(t *testing.T) {
	for _, room := range []int{0, 1, 6, 7, 4096, 1 << 24} {
		d, p := newDisk(t, room)
		l, records := mustOpen(t, d, p)
		if records != nil || l.Segment() != 1 || l.Count() != 0 || l.Sure() != 0 || l.Segments() != nil || l.Size() != 0 || len(d.List()) != 0 {
			t.Error(room, records, l.Segment(), l.Count(), l.Sure(), l.Segments(), l.Size(), d.List())
		}
	}
}

// What has no segment's name is none, whatever it has.
func TestOtherFiles(t *testing.T) {
	names := []string{
		"wal", "wal.", "wal.1", "wal.0000001", "wal.000000001", "wal.00000000", "wal.-0000001", "wal.-00000001", "wal.0000000a", "wal.0000000-", "wal.0000.001", "wal..0000001", "wal00000001", "wal-00000001", "awal.00000001",
		".wal.00000001", "00000001", "00000003", "1", "3", "wal.00000001.", "wal.00000001.new", "wal.100000000", "wal.99999999999999999999", "wal.18446744073709551617", "wal.0x000001", "wal.1e000000", "wal.00000003.wal.00000003", "wal.wal.00000003", "block", "block.new", "xal.00000001", "wam.00000001",
	}
	d, p := newDisk(t, 1<<20)
	l, _ := mustOpen(t, d, p)
	for i, name := range names {
		mustWrite(t, d, p, name, "\xff\xff", i%2 == 0)
		mustBeLike(t, d, l, p)
		l, _ = mustOpen(t, d, p)
	}
	if l.Segment() != 1 || l.Size() != 0 || l.Segments() != nil {
		t.Fatal("others are segments", l.Segment(), l.Size(), l.Segments())
	}
	big := strings.Repeat("x", 4000)
	for _, a := range []act{appends(big), appends("a"), appends(big), syncs(), appends(big), rolls(), drops(3), drops(4)} {
		if err := mustDo(t, d, l, p, a); err != api.OK {
			t.Fatal(a, err)
		}
	}
	if got := len(d.List()); got != len(names) {
		t.Fatal("files", got)
	}
	mustDo(t, d, l, p, appends("b"))
	l, _ = mustOpen(t, d, p)
	if l.Segment() != 4 {
		t.Fatal("Segment", l.Segment())
	}
}

func TestOpenOfNumbers(t *testing.T) {
	for _, c := range []struct {
		numbers []int
		want    api.Errno
	}{
		{[]int{1}, api.OK}, {[]int{2}, api.OK}, {[]int{1, 2}, api.OK}, {[]int{1, 2, 3}, api.OK}, {[]int{5, 6, 7, 8}, api.OK}, {[]int{9, 10, 11}, api.OK}, {[]int{99, 100}, api.OK}, {[]int{99999999}, api.OK}, {[]int{99999997, 99999998, 99999999}, api.OK},
		{[]int{1, 3}, api.ErrForm}, {[]int{1, 2, 4}, api.ErrForm}, {[]int{1, 3, 4}, api.ErrForm}, {[]int{2, 4}, api.ErrForm}, {[]int{1, 3, 5}, api.ErrForm}, {[]int{7, 9}, api.ErrForm}, {[]int{1, 99999999}, api.ErrForm}, {[]int{1, 2, 3, 5, 6}, api.ErrForm}, {[]int{1, 4, 5}, api.ErrForm}, {[]int{9, 11}, api.ErrForm}, {[]int{1, 2, 10}, api.ErrForm},
	} {
		for _, bytes := range []string{framed("a") + framed(""), ""} {
			d, p := newDisk(t, 1<<16)
			for _, n := range c.numbers {
				mustWrite(t, d, p, plainTitle(n), bytes, true)
			}
			if c.want != api.OK {
				mustNotOpen(t, d, p, c.want)
				continue
			}
			l, _ := mustOpen(t, d, p)
			if got := l.Segments(); l.Segment() != c.numbers[len(c.numbers)-1] || !slices.Equal(got, c.numbers) {
				t.Fatal("Segment", l.Segment(), got)
			}
		}
	}
	d, p := newDisk(t, 1<<16)
	mustWrite(t, d, p, plainTitle(1), "\xff", true)
	mustWrite(t, d, p, plainTitle(3), "\xff", true)
	mustNotOpen(t, d, p, api.ErrForm) // the numbers come ahead of the bytes
}

// Records stand in the order of their segments' numbers.
func TestOpenInOrder(t *testing.T) {
	for _, first := range []int{1, 5, 95, 9999990, 99999936} {
		d, p := newDisk(t, 1<<16)
		draws := sample.Draws(first)
		order := make([]int, 64)
		for i := range order {
			j := draws.Below(i + 1)
			order[i], order[j] = order[j], first+i
		}
		for _, n := range order {
			mustWrite(t, d, p, plainTitle(n), framed(plainTitle(n)+"a")+framed("")+framed(plainTitle(n)+"b"), true)
		}
		l, records := mustOpen(t, d, p)
		var want []string
		for i := range 64 {
			want = append(want, plainTitle(first+i)+"a", "", plainTitle(first+i)+"b")
		}
		if !slices.Equal(records, want) || l.Count() != 192 || l.Sure() != 192 || l.Segment() != first+63 {
			t.Fatalf("%d, %d, %d, %.100q", l.Count(), l.Sure(), l.Segment(), records)
		}
	}
}

// wrongs are bytes that All refuses, by errors.
var wrongs = map[api.Errno][]string{
	api.ErrShort: {"\x00", "\x80", "\xff\xff\xff", "\x02ab", "\x01a1234"[:5], framed("abc")[:7], "\x80\x80\x40", "\x05"},
	api.ErrForm:  {"\x80\x00", "\x85\x00abcde1234"},
	api.ErrOver:  {strings.Repeat("\xff", 10), strings.Repeat("\xff", 9) + "\x02"},
	api.ErrLong:  {"\x81\x80\x40", "\x81\x80\x40abc", strings.Repeat("\xff", 9) + "\x01"},
	api.ErrSum:   {"\x00\x00\x00\x00\x00", "\x01\x02\x03\x04\x05\x06", framed("abc")[:7] + "x", "\x03abd" + framed("abc")[4:]},
}

func TestOpenOfWrongBytes(t *testing.T) {
	for want, list := range wrongs {
		for _, wrong := range list {
			for _, segments := range []int{1, 2, 3, 5} {
				for at := range segments {
					for _, ahead := range []string{"", framed("ab"), framed("") + framed(strings.Repeat("x", 200))} {
						d, p := newDisk(t, 1<<16)
						for i := range segments {
							bytes := framed("a") + framed("b")
							if i == at {
								bytes = ahead + wrong
							}
							mustWrite(t, d, p, plainTitle(7+i), bytes, i%2 == 0)
						}
						if want != api.ErrShort || at < segments-1 {
							mustNotOpen(t, d, p, want)
							continue
						}
						l, _ := mustOpen(t, d, p)
						if n, _ := d.Lasts(plainTitle(7 + at)); n != len(ahead) || l.Segment() != 7+at {
							t.Fatalf("cut to %d bytes, want %d", n, len(ahead))
						}
					}
				}
			}
		}
	}
}

// The first wrong segment tells the error, and nothing is cut then.
func TestOpenTellsTheFirstError(t *testing.T) {
	for first, some := range wrongs {
		for second, others := range wrongs {
			for _, between := range []int{0, 1, 2} {
				d, p := newDisk(t, 1<<16)
				mustWrite(t, d, p, plainTitle(3), framed("a"), true)
				mustWrite(t, d, p, plainTitle(4), framed("b")+some[0], false)
				for i := range between {
					mustWrite(t, d, p, plainTitle(5+i), framed("c"), false)
				}
				mustWrite(t, d, p, plainTitle(5+between), framed("d")+others[0], false)
				mustNotOpen(t, d, p, first)
				d.Remove(plainTitle(4))
				delete(p.files, plainTitle(4))
				mustNotOpen(t, d, p, api.ErrForm)
				mustWrite(t, d, p, plainTitle(4), framed("b"), true)
				if second == api.ErrShort {
					mustOpen(t, d, p)
				} else {
					mustNotOpen(t, d, p, second)
				}
			}
		}
	}
}

// A frame that is torn, and other bytes behind it in the same segment.
func TestOpenTellsTheFirstErrorOfASegment(t *testing.T) {
	d, p := newDisk(t, 1<<16)
	mustWrite(t, d, p, plainTitle(1), framed("a")+"\x01\x02\x03\x04\x05\x06"+strings.Repeat("\xff", 10), true)
	mustNotOpen(t, d, p, api.ErrSum)
	d, p = newDisk(t, 1<<16)
	mustWrite(t, d, p, plainTitle(1), framed("a")+strings.Repeat("\xff", 10)+framed("a"), true)
	mustNotOpen(t, d, p, api.ErrOver)
	d, p = newDisk(t, 1<<16)
	mustWrite(t, d, p, plainTitle(1), framed("a")+"\x7f"+framed("b")+framed("c"), true) // the length asks for more than there is
	if _, records := mustOpen(t, d, p); !slices.Equal(records, []string{"a"}) {
		t.Fatalf("%q", records)
	}
}

func TestOpenOfEachCut(t *testing.T) {
	parts := []string{"", "a", "", strings.Repeat("b", 127), strings.Repeat("c", 128), "dd"}
	whole := ""
	for _, b := range parts {
		whole += framed(b)
	}
	for _, ahead := range []int{0, 1, 2} {
		for n := range len(whole) + 1 {
			for _, lasting := range []bool{true, false} {
				d, p := newDisk(t, 1<<16)
				var want []string
				for i := range ahead {
					mustWrite(t, d, p, plainTitle(1+i), whole, true)
					want = append(want, parts...)
				}
				mustWrite(t, d, p, plainTitle(1+ahead), whole[:n], lasting)
				size := 0
				for _, b := range parts {
					if size+len(framed(b)) > n {
						break
					}
					size += len(framed(b))
					want = append(want, b)
				}
				l, records := mustOpen(t, d, p)
				b, _ := d.Read(plainTitle(1 + ahead))
				lasts, _ := d.Lasts(plainTitle(1 + ahead))
				if !slices.Equal(records, want) || l.Segment() != 1+ahead || string(b) != whole[:size] {
					t.Fatalf("cut off at %d: %d records, %d bytes", n, len(records), len(b))
				}
				if torn := size < n; (torn || lasting) && lasts != size || !torn && !lasting && lasts != 0 { // what was not torn is not cut, and lasts as it did
					t.Fatalf("cut off at %d: %d bytes last", n, lasts)
				}
				mustDo(t, d, l, p, appends("more"))
				mustOpen(t, d, p)
			}
		}
	}
}

// What is not torn is left alone: it is neither cut nor synced.
func TestOpenChangesNothingWhole(t *testing.T) {
	d, p := newDisk(t, 1<<16)
	mustWrite(t, d, p, plainTitle(1), framed("a"), false)
	mustWrite(t, d, p, plainTitle(2), framed("b"), true)
	mustWrite(t, d, p, plainTitle(2), framed("c"), false)
	l, _ := mustOpen(t, d, p)
	first, _ := d.Lasts(plainTitle(1))
	second, _ := d.Lasts(plainTitle(2))
	if first != 0 || second != 6 || l.Sure() != 3 {
		t.Fatal(first, second, l.Sure())
	}
}

func TestOpenOfEmptySegments(t *testing.T) {
	d, p := newDisk(t, 1<<16)
	mustWrite(t, d, p, plainTitle(4), "", true)
	l, _ := mustOpen(t, d, p)
	if l.Segment() != 4 || l.Count() != 0 || !slices.Equal(l.Segments(), []int{4}) {
		t.Fatal(l.Segment(), l.Count(), l.Segments())
	}
	mustWrite(t, d, p, plainTitle(5), framed("a"), true)
	mustWrite(t, d, p, plainTitle(6), "", true)
	mustWrite(t, d, p, plainTitle(7), framed("b"), true)
	mustWrite(t, d, p, plainTitle(8), framed("c")[:3], true) // nothing of it is whole
	l, records := mustOpen(t, d, p)
	if l.Segment() != 8 || !slices.Equal(records, []string{"a", "b"}) {
		t.Fatalf("%d, %q", l.Segment(), records)
	}
	mustGo(t, d, l, p, step{rolls(), api.OK}, step{appends("d"), api.OK}) // it has no bytes
	if l.Segment() != 8 {
		t.Fatal("Segment", l.Segment())
	}
}

func TestLogsAreOnesOfTheirOwn(t *testing.T) {
	d, p := newDisk(t, 1<<16)
	one, _ := mustOpen(t, d, p)
	other, _ := mustOpen(t, d, p)
	mustDo(t, d, one, p, appends("a"))
	if other.Count() != 0 || other.Sure() != 0 || other.Size() != 6 || !slices.Equal(other.Segments(), []int{1}) {
		t.Fatal(other.Count(), other.Sure(), other.Size(), other.Segments())
	}
	if err := other.Sync(); err != api.OK || one.Sure() != 0 {
		t.Fatal(err, one.Sure())
	}
}
