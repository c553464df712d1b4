package disk_test

import (
	"math"
	"slices"
	"strconv"
	"strings"
	"testing"

	"manometer/api"
	"manometer/disk"
	"manometer/sample"
)

func TestLimitsAndErrors(t *testing.T) {
	if api.MaxDisk != 1<<24 || api.MaxFiles != 64 || api.MaxTitle != 32 {
		t.Error("limits", api.MaxDisk, api.MaxFiles, api.MaxTitle)
	}
	if api.OK != 0 || api.ErrArg != 1 || api.ErrMade != 2 || api.ErrLong != 3 || api.ErrNone != 4 || api.ErrFull != 5 || api.ErrState != 7 || api.ErrTitle != 110 {
		t.Error(api.OK, api.ErrArg, api.ErrMade, api.ErrLong, api.ErrNone, api.ErrFull, api.ErrState, api.ErrTitle)
	}
}

// P11.1

func TestNew(t *testing.T) {
	for _, room := range []int{0, 1, 2, 10, 4096, 1<<24 - 1, 1 << 24} {
		d, p := newDisk(t, room)
		mustBeLike(t, d, p)
		d.Crash(1)
		mustBeLike(t, d, p)
		for _, a := range []act{syncs("a"), cuts("a", 0), removes("a"), swaps("a", "b")} {
			if err := a.do(d); err != api.ErrNone {
				t.Error(a, err)
			}
		}
		mustBeLike(t, d, p)
	}
	for _, room := range []int{-1, -2, 1<<24 + 1, 1 << 25, 1 << 32, 1<<32 + 5, math.MaxInt, math.MinInt} {
		if d, err := disk.New(room); d != nil || err != api.ErrArg {
			t.Error("New", room, d, err)
		}
	}
}

func TestDisksAreOnesOfTheirOwn(t *testing.T) {
	one, p := newDisk(t, 10)
	other, q := newDisk(t, 10)
	mustDo(t, one, p, appends("a", "1234567890"))
	mustBeLike(t, other, q)
	mustDo(t, other, q, appends("b", "123"))
	mustBeLike(t, one, p)
}

func TestWhatNoCallMade(t *testing.T) {
	zero := &disk.Disk{}
	var none *disk.Disk
	for range 2 { // also behind all those calls it is what no call made
		for _, d := range []*disk.Disk{none, zero, new(disk.Disk)} {
			for _, a := range []act{
				appends("a", "x"), appends("a", ""), appends("", ""), appends("A", strings.Repeat("x", 1<<25)), syncs("a"), syncs(""), cuts("a", 0), cuts("a", -1), cuts("", 1),
				removes("a"), removes(""), swaps("a", "b"), swaps("a", "a"), swaps("a", ""), swaps("", "b"),
			} {
				if err := a.do(d); err != api.ErrMade {
					t.Error(a, err)
				}
			}
			for _, name := range []string{"a", "", "A"} {
				if b, err := d.Read(name); len(b) != 0 || err != api.ErrMade {
					t.Error("Read", name, b, err)
				}
				if n, err := d.Lasts(name); n != 0 || err != api.ErrMade {
					t.Error("Lasts", name, n, err)
				}
			}
			for _, keep := range []int{0, 1, -1, math.MaxInt, math.MinInt} {
				d.Crash(keep)
			}
			if d.List() != nil || d.Size() != 0 || d.Room() != 0 || d.Clone() != nil {
				t.Error("what no call made has something", d.List(), d.Size(), d.Room(), d.Clone())
			}
		}
	}
}

// P11.3

func TestListRises(t *testing.T) {
	rising := []string{"-", "-a", ".", "..", "0", "00", "1", "10", "9", "a", "a-", "a.", "a0", "aa", "ab", "b", "block", "block.new", "wal.00000001", "wal.00000002", "wal.00000010", "z", "zz"}
	d := sample.Draws(41)
	for range 20 {
		x, p := newDisk(t, 100)
		names := slices.Clone(rising)
		for i := range names {
			j := d.Below(i + 1)
			names[i], names[j] = names[j], names[i]
		}
		for _, name := range names {
			mustDo(t, x, p, appends(name, name[:1]))
		}
		if got := x.List(); !slices.Equal(got, rising) {
			t.Fatalf("List: %q", got)
		}
	}
}

// Any bytes may stand in a file.
func TestReadOfAnyBytes(t *testing.T) {
	d, p := newDisk(t, 1<<16)
	all := ""
	for i := range 256 {
		all += string([]byte{byte(i)})
	}
	for i := range len(all) {
		mustDo(t, d, p, appends("a", all[i:i+1]))
	}
	mustDo(t, d, p, appends("b", all))
	mustDo(t, d, p, appends("b", all+"\xff\x00"))
	for _, a := range []act{syncs("b"), swaps("b", "c"), crashes(17), appends("a", all), cuts("a", 200), crashes(0)} {
		mustDo(t, d, p, a)
	}
}

func TestCloneIsAnotherDisk(t *testing.T) {
	draws := sample.Draws(42)
	begun := someActs(draws, 60)
	for range 60 {
		d, p := newDisk(t, 200)
		for _, a := range begun[:draws.Below(len(begun))] {
			mustDo(t, d, p, a)
		}
		c, q := d.Clone(), p.clone()
		mustBeLike(t, c, &q)
		one, other := someActs(draws, 40), someActs(draws, 40)
		for i := range min(len(one), len(other)) { // they go ways of their own, by turns
			mustDo(t, d, p, one[i])
			mustBeLike(t, c, &q)
			mustDo(t, c, &q, other[i])
			mustBeLike(t, d, p)
		}
	}
}

func TestCloneOfSome(t *testing.T) {
	empty, p := newDisk(t, 0)
	mustBeLike(t, empty.Clone(), p)
	mustBeLike(t, empty.Clone().Clone(), p)
	d, p := newDisk(t, 9)
	for _, a := range []act{appends("a", "ab"), syncs("a"), appends("a", "cd"), appends("b", ""), appends("c", "x"), cuts("c", 1)} {
		mustDo(t, d, p, a)
		q := p.clone()
		c := d.Clone()
		mustBeLike(t, c, &q)
		mustDo(t, c, &q, crashes(1)) // what lasts of the clone lasts of it alone
		mustDo(t, c, &q, appends("a", "12345"))
		mustDo(t, c, &q, removes("c"))
		mustBeLike(t, d, p)
	}
}

// All calls together

// Each row of a few calls on two files is tried, from a new disk on, step by step on a clone.
func TestAllShortRows(t *testing.T) {
	acts := []act{
		appends("a", ""), appends("a", "1"), appends("a", "234"), appends("b", "56"), syncs("a"), syncs("b"), cuts("a", 0), cuts("a", 2),
		removes("a"), swaps("a", "a"), swaps("a", "b"), swaps("b", "a"), crashes(-1), crashes(0), crashes(1), crashes(2),
	}
	told := map[api.Errno]int{}
	var goOn func(d *disk.Disk, p plain, deep int)
	goOn = func(d *disk.Disk, p plain, deep int) {
		for _, a := range acts {
			c, q := d.Clone(), p.clone()
			told[mustDo(t, c, &q, a)]++
			if deep > 1 {
				goOn(c, q, deep-1)
			}
		}
	}
	d, p := newDisk(t, 6)
	goOn(d, *p, 5)
	mustBeLike(t, d, p)
	for _, err := range []api.Errno{api.OK, api.ErrNone, api.ErrArg, api.ErrState, api.ErrFull} {
		if told[err] < 100 {
			t.Error("what was tried tells little", told)
		}
	}
}

func TestLongRows(t *testing.T) {
	draws := sample.Draws(43)
	told := map[api.Errno]int{}
	for range 150 {
		d, p := newDisk(t, draws.Below(150))
		for _, a := range someActs(draws, 150) {
			told[mustDo(t, d, p, a)]++
		}
	}
	for _, err := range []api.Errno{api.OK, api.ErrNone, api.ErrArg, api.ErrState, api.ErrFull, api.ErrTitle} {
		if told[err] < 500 {
			t.Error("what was tried tells little", told)
		}
	}
}

func TestTheSameIsToldEachTime(t *testing.T) {
	acts := someActs(sample.Draws(44), 300)
	told := func() string {
		var all strings.Builder
		d, p := newDisk(t, 120)
		for _, a := range acts {
			all.WriteString(strconv.Itoa(int(mustDo(t, d, p, a))) + " " + strings.Join(d.List(), " ") + "\n")
		}
		return all.String()
	}
	first := told()
	for range 20 {
		if again := told(); again != first {
			t.Fatalf("another time\n%s, the first time\n%s", again, first)
		}
	}
}
