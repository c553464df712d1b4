package wal_test

import (
	"math"
	"slices"
	"strconv"
	"strings"
	"testing"

	"manometer/api"
	"manometer/disk"
	"manometer/sample"
)

// P12.2 and P12.3

// sized is a record whose frame has so many bytes.
func sized(n int) string {
	head := 1
	if n > 1+127+4 {
		head = 2
	}
	b := string(sample.Bytes(n - head - 4))
	if len(framed(b)) != n {
		panic(n)
	}
	return b
}

func TestTheExample(t *testing.T) {
	d, p := newDisk(t, 100)
	l, _ := mustOpen(t, d, p)
	mustGo(t, d, l, p, step{appends("ab"), api.OK})
	b, err := d.Read("wal.00000001")
	if err != api.OK || len(b) != 7 || len(d.List()) != 1 {
		t.Fatal(b, err, d.List())
	}
	if n, _ := d.Lasts("wal.00000001"); n != 0 || l.Sure() != 0 {
		t.Fatal("Append alone makes bytes last", n, l.Sure())
	}
}

// Where a segment of some bytes has just room, or a byte too little.
func TestAppendAboutMaxSegment(t *testing.T) {
	for _, has := range []int{5, 6, 100, 2048, 4085, 4090, 4091} {
		for _, more := range []int{4096 - has - 1, 4096 - has, 4096 - has + 1, 4096 - has + 2} {
			if more < 5 { // no frame has fewer bytes
				continue
			}
			d, p := newDisk(t, 1<<16)
			l, _ := mustOpen(t, d, p)
			mustGo(t, d, l, p, step{appends(sized(has)), api.OK}, step{appends(sized(more)), api.OK})
			at, sure := 1, 0
			if has+more > 4096 {
				at, sure = 2, 1
			}
			if n, _ := d.Lasts(plainTitle(1)); l.Segment() != at || l.Sure() != sure || l.Count() != 2 || n != has*sure || len(l.Segments()) != at {
				t.Fatalf("%d and %d bytes: Segment %d, Sure %d, %d last", has, more, l.Segment(), l.Sure(), n)
			}
		}
	}
}

// A segment of one record may be greater.
func TestAppendOfGreatRecords(t *testing.T) {
	for _, size := range []int{4095, 4096, 4097, 5000, 1<<20 + 7} {
		d, p := newDisk(t, 1<<22)
		l, _ := mustOpen(t, d, p)
		great := string(sample.Bytes(min(size-6, 1<<20))) // the length has two bytes, that of the greatest one three
		if len(framed(great)) != size {
			t.Fatal(size, len(framed(great)))
		}
		mustGo(t, d, l, p, step{appends(great), api.OK})
		if l.Segment() != 1 || l.Size() != size {
			t.Fatal(size, l.Segment(), l.Size())
		}
		mustGo(t, d, l, p, step{appends(""), api.OK}, step{appends(great), api.OK}, step{appends(great), api.OK}, step{appends("a"), api.OK})
		if l.Segment() != 5 || l.Count() != 5 || l.Sure() != 4 {
			t.Fatal(size, l.Segment(), l.Count(), l.Sure())
		}
		_, records := mustOpen(t, d, p)
		if !slices.Equal(records, []string{great, "", great, great, "a"}) {
			t.Fatal(size)
		}
	}
}

func TestAppendOfTooLongRecords(t *testing.T) {
	d, p := newDisk(t, 1<<24)
	l, _ := mustOpen(t, d, p)
	long := strings.Repeat("x", 1<<20)
	mustGo(t, d, l, p, step{appends(long + "x"), api.ErrLong}, step{appends(long), api.OK}, step{appends(long + "x"), api.ErrLong}, step{appends(long + long), api.ErrLong}, step{appends(long), api.OK})
	if l.Segment() != 2 || l.Count() != 2 {
		t.Fatal(l.Segment(), l.Count())
	}
	small, q := newDisk(t, 10)
	k, _ := mustOpen(t, small, q)
	mustGo(t, small, k, q, step{appends(long + "x"), api.ErrLong}, step{appends(long), api.ErrFull}) // ahead of ErrFull
}

func TestAppendOfAFullDisk(t *testing.T) {
	for _, other := range []int{0, 1, 50} {
		for _, size := range []int{5, 6, 7, 100, 200} {
			for _, less := range []int{0, 1} {
				d, p := newDisk(t, other+6+size-less)
				if other > 0 {
					mustWrite(t, d, p, "other", strings.Repeat("x", other), other == 1)
				}
				l, _ := mustOpen(t, d, p)
				want := api.OK
				if less > 0 {
					want = api.ErrFull
				}
				mustGo(t, d, l, p, step{appends("a"), api.OK}, step{appends(sized(size)), want})
				if l.Count() != 2-less || l.Segment() != 1 || l.Sure() != 0 {
					t.Fatal(l.Count(), l.Segment(), l.Sure())
				}
			}
		}
	}
}

// What does not fit does not roll either: nothing is synced, and smaller records go where they went.
func TestAppendOfTheNextOfAFullDisk(t *testing.T) {
	d, p := newDisk(t, 4500)
	l, _ := mustOpen(t, d, p)
	mustGo(t, d, l, p, step{appends(sized(4000)), api.OK}, step{appends(sized(501)), api.ErrFull})
	if n, _ := d.Lasts(plainTitle(1)); l.Segment() != 1 || l.Sure() != 0 || n != 0 {
		t.Fatal("what is refused rolls", l.Segment(), l.Sure(), n)
	}
	mustGo(t, d, l, p, step{appends(sized(96)), api.OK}, step{appends(sized(405)), api.ErrFull})
	if l.Segment() != 1 || l.Count() != 2 || l.Sure() != 0 {
		t.Fatal(l.Segment(), l.Count(), l.Sure())
	}
	mustGo(t, d, l, p, step{appends(sized(404)), api.OK}, step{appends(""), api.ErrFull}, step{rolls(), api.OK}, step{drops(2), api.OK}, step{appends(sized(4000)), api.OK})
	if l.Segment() != 3 || l.Count() != 4 || !slices.Equal(l.Segments(), []int{2, 3}) {
		t.Fatal(l.Segment(), l.Count(), l.Segments())
	}
}

func TestTheGreatestNumber(t *testing.T) {
	d, p := newDisk(t, 1<<24)
	mustWrite(t, d, p, plainTitle(99999998), framed("a"), true)
	l, _ := mustOpen(t, d, p)
	mustGo(t, d, l, p, step{appends(sized(4091)), api.OK}) // goes to the last one of all
	if l.Segment() != 99999999 || l.Sure() != 1 || l.Count() != 2 {
		t.Fatal(l.Segment(), l.Sure(), l.Count())
	}
	mustGo(t, d, l, p,
		step{rolls(), api.ErrFull}, step{appends("a"), api.ErrFull}, step{appends(strings.Repeat("x", 1<<20+1)), api.ErrLong},
	)
	if n, _ := d.Lasts(plainTitle(99999999)); n != 0 || l.Sure() != 1 {
		t.Fatal("what is refused syncs", n, l.Sure())
	}
	mustGo(t, d, l, p, step{appends(""), api.OK}, step{appends(""), api.ErrFull}, step{rolls(), api.ErrFull}, step{syncs(), api.OK}, step{rolls(), api.ErrFull}, step{drops(99999999), api.OK}, step{drops(100000000), api.ErrArg}, step{appends(""), api.ErrFull})
	if l.Count() != 3 || l.Sure() != 3 {
		t.Fatal(l.Count(), l.Sure())
	}
}

// Of the greatest number a segment without bytes takes what it gets, and does not roll.
func TestTheGreatestNumberWithoutBytes(t *testing.T) {
	d, p := newDisk(t, 1<<24)
	mustWrite(t, d, p, plainTitle(99999999), "", true)
	l, _ := mustOpen(t, d, p)
	mustGo(t, d, l, p, step{rolls(), api.ErrFull}, step{appends(strings.Repeat("x", 1<<20)), api.OK}, step{rolls(), api.ErrFull}, step{appends(""), api.ErrFull})
}

func TestMostFiles(t *testing.T) {
	filled := func(t *testing.T, count int) (*disk.Disk, *plain) {
		d, p := newDisk(t, 5000)
		for i := range count {
			mustWrite(t, d, p, "other"+strconv.Itoa(i), "", true)
		}
		return d, p
	}
	d, p := filled(t, 64)
	l, _ := mustOpen(t, d, p)
	mustGo(t, d, l, p,
		step{appends("a"), api.ErrLong}, step{appends(""), api.ErrLong}, step{appends(strings.Repeat("x", 4995)), api.ErrFull}, // behind ErrFull
		step{syncs(), api.OK}, step{rolls(), api.OK}, step{drops(1), api.OK},
	)
	if l.Segment() != 1 || l.Count() != 0 {
		t.Fatal(l.Segment(), l.Count())
	}
	d, p = filled(t, 63)
	l, _ = mustOpen(t, d, p)
	mustGo(t, d, l, p, step{appends(sized(4000)), api.OK}, step{appends(sized(97)), api.ErrLong}) // there is no place for the next one
	if n, _ := d.Lasts(plainTitle(1)); l.Segment() != 1 || l.Sure() != 0 || n != 0 {
		t.Fatal("what is refused rolls", l.Segment(), l.Sure(), n)
	}
	mustGo(t, d, l, p,
		step{appends(sized(96)), api.OK}, // in the file that is there
		step{appends(sized(1000)), api.ErrFull}, step{appends(sized(904)), api.ErrLong}, step{appends(""), api.ErrLong}, step{rolls(), api.OK}, step{appends(""), api.ErrLong}, step{drops(2), api.OK}, step{appends(sized(5000)), api.OK},
	)
	if l.Segment() != 2 || l.Count() != 3 || l.Sure() != 2 {
		t.Fatal(l.Segment(), l.Count(), l.Sure())
	}
}

func TestSegmentsUpToMostFiles(t *testing.T) {
	d, p := newDisk(t, 1<<20)
	l, _ := mustOpen(t, d, p)
	for range 64 {
		mustGo(t, d, l, p, step{appends(sized(4000)), api.OK})
	}
	mustGo(t, d, l, p, step{appends(sized(4000)), api.ErrLong}, step{appends(sized(96)), api.OK}, step{appends(""), api.ErrLong}, step{drops(2), api.OK}, step{appends(""), api.OK})
	if l.Segment() != 65 || l.Count() != 66 || l.Sure() != 65 || len(l.Segments()) != 64 {
		t.Fatal(l.Segment(), l.Count(), l.Sure(), len(l.Segments()))
	}
}

func TestSync(t *testing.T) {
	d, p := newDisk(t, 1<<16)
	mustWrite(t, d, p, "other", "x", false)
	l, _ := mustOpen(t, d, p)
	mustGo(t, d, l, p, step{syncs(), api.OK}, step{syncs(), api.OK}) // without a file, and it makes none
	mustGo(t, d, l, p, step{appends("a"), api.OK}, step{appends("b"), api.OK})
	if l.Sure() != 0 {
		t.Fatal("Sure", l.Sure())
	}
	mustGo(t, d, l, p, step{syncs(), api.OK})
	if n, _ := d.Lasts(plainTitle(1)); l.Sure() != 2 || n != 12 {
		t.Fatal(l.Sure(), n)
	}
	mustGo(t, d, l, p, step{appends(""), api.OK}, step{syncs(), api.OK})
	if n, _ := d.Lasts("other"); n != 0 || l.Sure() != 3 { // another file is not synced
		t.Fatal(n, l.Sure())
	}
}

// It syncs its own segment alone, also where it has records of others that do not last.
func TestSyncOfItsSegmentAlone(t *testing.T) {
	d, p := newDisk(t, 1<<16)
	mustWrite(t, d, p, plainTitle(1), framed("a"), false)
	mustWrite(t, d, p, plainTitle(2), framed("b"), false)
	l, _ := mustOpen(t, d, p)
	mustGo(t, d, l, p, step{syncs(), api.OK}, step{appends("c"), api.OK}, step{rolls(), api.OK}, step{appends("d"), api.OK}, step{rolls(), api.OK})
	first, _ := d.Lasts(plainTitle(1))
	second, _ := d.Lasts(plainTitle(2))
	if first != 0 || second != 12 {
		t.Fatal(first, second)
	}
}

func TestRoll(t *testing.T) {
	d, p := newDisk(t, 1<<16)
	l, _ := mustOpen(t, d, p)
	mustGo(t, d, l, p, step{rolls(), api.OK}, step{rolls(), api.OK}) // without bytes it stays
	if l.Segment() != 1 || len(d.List()) != 0 {
		t.Fatal(l.Segment(), d.List())
	}
	mustGo(t, d, l, p, step{appends(""), api.OK}, step{rolls(), api.OK})
	if n, _ := d.Lasts(plainTitle(1)); l.Segment() != 2 || l.Sure() != 1 || n != 5 || len(d.List()) != 1 {
		t.Fatal(l.Segment(), l.Sure(), n, d.List())
	}
	mustGo(t, d, l, p, step{rolls(), api.OK}, step{syncs(), api.OK}, step{rolls(), api.OK})
	if l.Segment() != 2 {
		t.Fatal(l.Segment())
	}
	mustGo(t, d, l, p, step{appends("a"), api.OK}, step{appends("b"), api.OK}, step{rolls(), api.OK}, step{appends("c"), api.OK})
	if l.Segment() != 3 || l.Count() != 4 || l.Sure() != 3 || !slices.Equal(l.Segments(), []int{1, 2, 3}) || l.Size() != 5+12+6 {
		t.Fatal(l.Segment(), l.Count(), l.Sure(), l.Segments(), l.Size())
	}
}

func TestDrop(t *testing.T) {
	for n, want := range map[int][]int{math.MinInt: {4, 5, 6, 7}, -1: {4, 5, 6, 7}, 0: {4, 5, 6, 7}, 1: {4, 5, 6, 7}, 3: {4, 5, 6, 7}, 4: {4, 5, 6, 7}, 5: {5, 6, 7}, 6: {6, 7}, 7: {7}, 8: nil, 9: nil, math.MaxInt: nil} {
		for _, written := range []bool{true, false} {
			d, p := newDisk(t, 1<<16)
			mustWrite(t, d, p, "wal.00000000", "x", true)
			mustWrite(t, d, p, "block", "x", true)
			for i := 4; i <= 6; i++ {
				mustWrite(t, d, p, plainTitle(i), framed("a")+framed(strconv.Itoa(i)), true)
			}
			l, _ := mustOpen(t, d, p)
			mustGo(t, d, l, p, step{rolls(), api.OK})
			left := want
			if written {
				mustGo(t, d, l, p, step{appends("7"), api.OK})
			} else if len(want) > 0 {
				left = want[:len(want)-1] // the last one has no file
			}
			if want == nil {
				mustGo(t, d, l, p, step{drops(n), api.ErrArg})
				continue
			}
			mustGo(t, d, l, p, step{drops(n), api.OK}, step{drops(n), api.OK})
			if !slices.Equal(l.Segments(), left) || l.Segment() != 7 || len(d.List()) != len(left)+2 {
				t.Fatalf("Drop(%d): %d, %d, %q", n, l.Segments(), l.Segment(), d.List())
			}
			if got := l.Count(); written && got != 7 || !written && got != 6 { // those that were dropped count
				t.Fatal("Count", got)
			}
		}
	}
}

func TestDropOfANewLog(t *testing.T) {
	d, p := newDisk(t, 100)
	l, _ := mustOpen(t, d, p)
	mustGo(t, d, l, p, step{drops(2), api.ErrArg}, step{drops(1), api.OK}, step{drops(0), api.OK}, step{drops(math.MinInt), api.OK}, step{appends("a"), api.OK}, step{drops(1), api.OK}, step{drops(2), api.ErrArg}, step{rolls(), api.OK}, step{drops(2), api.OK})
	if l.Segment() != 2 || l.Segments() != nil || l.Size() != 0 || l.Count() != 1 || l.Sure() != 1 {
		t.Fatal(l.Segment(), l.Segments(), l.Size(), l.Count(), l.Sure())
	}
}

// What a segment has is asked of the disk each time.
func TestOthersWriteThere(t *testing.T) {
	d, p := newDisk(t, 1<<16)
	l, _ := mustOpen(t, d, p)
	mustWrite(t, d, p, plainTitle(1), framed(sized(4000)), false)
	mustBeLike(t, d, l, p)
	if l.Count() != 0 || l.Size() != 4000 { // others' records are not its own
		t.Fatal(l.Count(), l.Size())
	}
	mustGo(t, d, l, p, step{appends(sized(97)), api.OK}) // there is no place in the first one
	if l.Segment() != 2 || l.Count() != 1 {
		t.Fatal(l.Segment(), l.Count())
	}
	mustWrite(t, d, p, plainTitle(2), framed(sized(3900)), false)
	mustGo(t, d, l, p, step{appends(sized(100)), api.OK})
	if l.Segment() != 3 {
		t.Fatal(l.Segment())
	}
	d.Remove(plainTitle(3))
	delete(p.files, plainTitle(3))
	mustGo(t, d, l, p, step{rolls(), api.OK}, step{appends(sized(5000)), api.OK}) // without bytes it takes what it gets
	if l.Segment() != 3 {
		t.Fatal(l.Segment())
	}
	mustWrite(t, d, p, plainTitle(7), "x", false)
	mustWrite(t, d, p, plainTitle(99999999), "y", false)
	mustBeLike(t, d, l, p)
	mustGo(t, d, l, p, step{drops(4), api.ErrArg}, step{drops(3), api.OK})
	if !slices.Equal(l.Segments(), []int{3, 7, 99999999}) || l.Size() != 5002 {
		t.Fatal(l.Segments(), l.Size())
	}
	d.Cut(plainTitle(3), 0)
	p.files[plainTitle(3)] = plainFile{}
	mustGo(t, d, l, p, step{rolls(), api.OK}, step{appends("a"), api.OK})
	if l.Segment() != 3 || l.Size() != 8 {
		t.Fatal(l.Segment(), l.Size())
	}
}

// The next segment may be there already, and have bytes: the record goes there all the same.
func TestOthersWroteTheNextOne(t *testing.T) {
	d, p := newDisk(t, 1<<16)
	l, _ := mustOpen(t, d, p)
	mustGo(t, d, l, p, step{appends(sized(4000)), api.OK})
	mustWrite(t, d, p, plainTitle(2), framed(sized(4000)), false)
	mustGo(t, d, l, p, step{appends(sized(1000)), api.OK})
	if l.Segment() != 2 || l.Size() != 9000 {
		t.Fatal(l.Segment(), l.Size())
	}
	mustGo(t, d, l, p, step{appends(sized(1000)), api.OK})
	if l.Segment() != 3 {
		t.Fatal(l.Segment())
	}
}
