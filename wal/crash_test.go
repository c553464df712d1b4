package wal_test

import (
	"slices"
	"strconv"
	"strings"
	"testing"

	"manometer/api"
	"manometer/disk"
	"manometer/frame"
	"manometer/sample"
	"manometer/wal"
)

// kept is all records that stood on a disk, in order, with the segments where they stand; so many of the first ones were dropped.
type kept struct {
	records []string
	where   []int
	dropped int
}

// mustFollow makes the call, and writes down what is there then.
func (k *kept) mustFollow(t *testing.T, l *wal.Log, a act) {
	t.Helper()
	if err := a.do(l); err != api.OK {
		t.Fatal(a, err)
	}
	switch a.call {
	case "append":
		k.records, k.where = append(k.records, a.text), append(k.where, l.Segment())
	case "drop":
		for k.dropped < len(k.records) && k.where[k.dropped] < a.n {
			k.dropped++
		}
	}
}

// mustKeep asks whether the records of an opened log are those from the first one that was not dropped up to the last one that is sure, or one behind it; those are all then.
func (k *kept) mustKeep(t *testing.T, got []string, sure int) (lost int) {
	t.Helper()
	end := k.dropped + len(got)
	if end > len(k.records) || !slices.Equal(got, k.records[k.dropped:end]) {
		t.Fatalf("%d records behind %d that were dropped are not those of %d", len(got), k.dropped, len(k.records))
	}
	if end < sure {
		t.Fatalf("%d records are there, %d were sure", end, sure)
	}
	lost = len(k.records) - end
	k.records, k.where = k.records[:end], k.where[:end]
	return lost
}

// mustBeWhole asks what P12.5 says of all segments.
func mustBeWhole(t *testing.T, d *disk.Disk, numbers []int) {
	t.Helper()
	for i, n := range numbers {
		b, _ := d.Read(wal.Title(n))
		l, _, err := frame.All(b)
		if len(l) > 1 && len(b) > 4096 {
			t.Fatalf("%d records of segment %d have %d bytes", len(l), n, len(b))
		}
		if err != api.OK && (err != api.ErrShort || i < len(numbers)-1) {
			t.Fatalf("segment %d of %d: %d", n, numbers, err)
		}
	}
}

// drawn is a record of a few bytes, or of some that fill a segment soon.
func drawn(draws *sample.Draw) string {
	size := draws.Below(20)
	switch draws.Below(8) {
	case 0, 1, 2:
		size = 700 + draws.Below(1500)
	case 3:
		size = 4080 + draws.Below(40)
	}
	return string(sample.Bytes(size))
}

// P12.4, P12.5 and P12.6

func TestWhatLasts(t *testing.T) {
	draws := sample.Draws(61)
	lost, torn, dropped := 0, 0, 0
	for range 200 {
		d, p := newDisk(t, 1<<18)
		l, _ := mustOpen(t, d, p)
		k := &kept{}
		base := 0 // so many records stood ahead of those that the log had, when it was opened
		for range 100 {
			switch draws.Below(12) {
			case 0, 1, 2, 3, 4, 5, 6:
				k.mustFollow(t, l, appends(drawn(draws)))
			case 7:
				k.mustFollow(t, l, syncs())
			case 8:
				k.mustFollow(t, l, rolls())
			case 9:
				k.mustFollow(t, l, drops(l.Segment()-draws.Below(3)))
			default:
				d.Crash([]int{draws.Below(3000), draws.Below(12) - 1}[draws.Below(2)])
				size := d.Size()
				again, records, err := wal.Open(d)
				if err != api.OK || again.Count() != len(records) || again.Sure() != len(records) {
					t.Fatal("Open", err)
				}
				lost += k.mustKeep(t, texts(records), base+l.Sure())
				if d.Size() < size {
					torn++
				}
				l, base = again, k.dropped
				dropped += k.dropped
			}
			mustBeWhole(t, d, l.Segments())
			if l.Count() != len(k.records)-base || l.Sure() > l.Count() {
				t.Fatal("Count, Sure", l.Count(), l.Sure(), len(k.records)-base)
			}
		}
	}
	if lost < 500 || torn < 100 || dropped < 1000 {
		t.Error("what was tried tells little", lost, torn, dropped)
	}
}

// Each cut of what does not last, behind rolls and drops.
func TestCrashOfEachCut(t *testing.T) {
	big := strings.Repeat("x", 2000)
	rows := [][]act{
		{appends("a"), appends(""), appends("b")},
		{appends("a"), syncs(), appends("b"), appends("cd"), appends("")},
		{appends(big), appends(big), appends("a"), appends(big), appends("b"), appends("c")},
		{appends(big), appends(big), appends(big), appends("a"), drops(2), appends("b"), appends("c")},
		{appends("a"), rolls(), appends("b"), rolls(), appends("c"), appends("d")},
		{appends("a"), rolls(), appends("b"), syncs(), appends("c"), drops(2), appends("d"), syncs()},
		{appends("a"), rolls(), drops(2), appends("b"), appends("c")},
		{appends("a"), rolls(), drops(2)},
	}
	for _, row := range rows {
		d, p := newDisk(t, 1<<16)
		l, _ := mustOpen(t, d, p)
		k := &kept{}
		for _, a := range row {
			k.mustFollow(t, l, a)
			size := 0 // of all that may be lost
			for _, b := range k.records[l.Sure():] {
				size += len(framed(b))
			}
			for keep := -1; keep <= size+1; keep++ {
				c, left := d.Clone(), kept{slices.Clone(k.records), slices.Clone(k.where), k.dropped}
				c.Crash(keep)
				again, records, err := wal.Open(c)
				if err != api.OK {
					t.Fatal("Open", err)
				}
				if lost := left.mustKeep(t, texts(records), l.Sure()); lost > 0 && keep >= size || lost == 0 && l.Sure() < l.Count() && keep < size {
					t.Fatalf("%d records are lost, of %d bytes %d are kept", lost, size, keep)
				}
				left.mustFollow(t, again, appends("more"))
				left.mustFollow(t, again, syncs())
				c.Crash(0)
				_, records, err = wal.Open(c)
				if lost := left.mustKeep(t, texts(records), len(left.records)); err != api.OK || lost > 0 {
					t.Fatal("behind another crash", err, lost)
				}
			}
		}
	}
}

// A disk that is too small, or of too many files, loses nothing either.
func TestWhatLastsOfAFullDisk(t *testing.T) {
	draws := sample.Draws(62)
	told := map[api.Errno]int{}
	for range 100 {
		d, p := newDisk(t, 3000+draws.Below(9000))
		for i := range 64 - 1 - draws.Below(4) {
			mustWrite(t, d, p, "other"+strconv.Itoa(i), "x", true)
		}
		l, _ := mustOpen(t, d, p)
		var records []string
		for range 40 {
			b := drawn(draws)
			err := mustDo(t, d, l, p, appends(b))
			told[err]++
			if err == api.OK {
				records = append(records, b)
			}
		}
		sure := l.Sure()
		d.Crash(draws.Below(50))
		_, left, err := wal.Open(d)
		if got := texts(left); err != api.OK || len(got) < sure || len(got) > len(records) || !slices.Equal(got, records[:len(got)]) {
			t.Fatalf("%d, %d records of %d, %d were sure", err, len(left), len(records), sure)
		}
	}
	for _, err := range []api.Errno{api.OK, api.ErrFull, api.ErrLong} {
		if told[err] < 100 {
			t.Error("what was tried tells little", told)
		}
	}
}

// A segment whose torn bytes were cut off has none left, and is gone behind the next crash: the records ahead of it go on.
func TestCrashBehindACut(t *testing.T) {
	d, p := newDisk(t, 1<<16)
	l, _ := mustOpen(t, d, p)
	mustGo(t, d, l, p, step{appends("a"), api.OK}, step{rolls(), api.OK}, step{appends("b"), api.OK})
	d.Crash(3)
	p.crash(3)
	l, records := mustOpen(t, d, p)
	if l.Segment() != 2 || !slices.Equal(records, []string{"a"}) || !slices.Equal(l.Segments(), []int{1, 2}) {
		t.Fatal(l.Segment(), records, l.Segments())
	}
	mustGo(t, d, l, p, step{appends("c"), api.OK})
	if l.Segment() != 2 {
		t.Fatal(l.Segment())
	}
	d.Crash(0)
	p.crash(0)
	l, records = mustOpen(t, d, p)
	if l.Segment() != 1 || !slices.Equal(records, []string{"a"}) {
		t.Fatal(l.Segment(), records)
	}
	mustGo(t, d, l, p, step{appends("e"), api.OK}, step{syncs(), api.OK})
	d.Crash(0)
	if _, left, err := wal.Open(d); err != api.OK || !slices.Equal(texts(left), []string{"a", "e"}) {
		t.Fatal(err, texts(left))
	}
}

func TestWhatIsLeftBehindADrop(t *testing.T) {
	draws := sample.Draws(63)
	met := 0
	for range 300 {
		d, p := newDisk(t, 1<<18)
		l, _ := mustOpen(t, d, p)
		var records []string
		for range 20 + draws.Below(20) {
			b := drawn(draws)
			mustGo(t, d, l, p, step{appends(b), api.OK})
			records = append(records, b)
			if draws.Below(6) == 0 {
				mustGo(t, d, l, p, step{rolls(), api.OK})
			}
		}
		for range 3 {
			n := draws.Below(l.Segment() + 1)
			mustGo(t, d, l, p, step{drops(n), api.OK})
			_, left, err := wal.Open(d.Clone())
			got := texts(left)
			if err != api.OK || len(got) > len(records) || !slices.Equal(got, records[len(records)-len(got):]) || l.Count() != len(records) {
				t.Fatal("behind a Drop", err, len(got), len(records), l.Count())
			}
			if len(got) < len(records) {
				met++
			}
		}
	}
	if met < 200 {
		t.Error("what was tried tells little", met)
	}
}

// All calls together

// Each row of a few calls is tried from a new disk on.
func TestAllShortRows(t *testing.T) {
	const crash, open = "crash", "open"
	acts := []act{
		appends(""), appends(sized(2000)), appends(sized(2096)), appends(sized(4097)), syncs(), rolls(), drops(1), drops(2), drops(3), {crash, "", 0}, {crash, "", 3}, {crash, "", 2001}, {open, "", 0},
	}
	told := map[api.Errno]int{}
	row := make([]int, 4)
	for {
		d, p := newDisk(t, 8193)
		l, _ := mustOpen(t, d, p)
		for _, i := range row {
			switch a := acts[i]; a.call {
			case crash:
				d.Crash(a.n)
				p.crash(a.n)
				l, _ = mustOpen(t, d, p)
			case open:
				l, _ = mustOpen(t, d, p)
			default:
				told[mustDo(t, d, l, p, a)]++
			}
		}
		at := 0
		for at < len(row) && row[at] == len(acts)-1 {
			row[at] = 0
			at++
		}
		if at == len(row) {
			break
		}
		row[at]++
	}
	for _, err := range []api.Errno{api.OK, api.ErrFull, api.ErrArg} {
		if told[err] < 500 {
			t.Error("what was tried tells little", told)
		}
	}
}

func TestLongRows(t *testing.T) {
	draws := sample.Draws(64)
	long := strings.Repeat("x", 1<<20+1)
	told := map[api.Errno]int{}
	for range 60 {
		d, p := newDisk(t, 5000+draws.Below(60000))
		if draws.Below(3) == 0 {
			mustWrite(t, d, p, plainTitle(99999990+draws.Below(10)), framed("a"), true)
		}
		for i := range 45 + draws.Below(18) {
			mustWrite(t, d, p, "other"+strconv.Itoa(i), "x", i%2 == 0)
		}
		l, _ := mustOpen(t, d, p)
		for range 120 {
			switch draws.Below(14) {
			case 0, 1, 2, 3, 4, 5:
				told[mustDo(t, d, l, p, appends(drawn(draws)))]++
			case 6:
				told[mustDo(t, d, l, p, appends([]string{long[:1<<16], long}[draws.Below(2)]))]++
			case 7:
				told[mustDo(t, d, l, p, syncs())]++
			case 8:
				told[mustDo(t, d, l, p, rolls())]++
			case 9, 10:
				told[mustDo(t, d, l, p, drops(l.Segment()+1-draws.Below(5)))]++
			case 11:
				mustWriteSome(t, d, p, l.Segment(), draws)
				mustBeLike(t, d, l, p)
			case 12:
				keep := draws.Below(5000) - 10
				d.Crash(keep)
				p.crash(keep)
				fallthrough
			case 13:
				l, _ = mustOpen(t, d, p)
			}
		}
	}
	for _, err := range []api.Errno{api.OK, api.ErrFull, api.ErrArg, api.ErrLong} {
		if told[err] < 50 {
			t.Error("what was tried tells little", told)
		}
	}
}

// mustWriteSome writes a frame to the log's segment, as others do, if there is room.
func mustWriteSome(t *testing.T, d *disk.Disk, p *plain, segment int, draws *sample.Draw) {
	t.Helper()
	f := framed(drawn(draws))
	if _, there := p.files[plainTitle(segment)]; there && p.size()+len(f) <= p.room {
		mustWrite(t, d, p, plainTitle(segment), f, draws.Below(2) == 0)
	}
}
