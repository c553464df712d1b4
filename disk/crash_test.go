package disk_test

import (
	"math"
	"strings"
	"testing"

	"manometer/api"
	"manometer/disk"
	"manometer/sample"
)

// P11.4

func TestTheExample(t *testing.T) {
	mustGo(t, 10, []step{{appends("f", "ab"), api.OK}, {syncs("f"), api.OK}, {appends("f", "cd"), api.OK}, {crashes(1), api.OK}}, plainFile{"f", "abc", ""})
}

func TestCrashOfSome(t *testing.T) {
	for _, c := range []struct {
		keep int
		left []plainFile
	}{
		{math.MinInt, []plainFile{{"both", "12", ""}, {"sure", "78", ""}}},
		{-1, []plainFile{{"both", "12", ""}, {"sure", "78", ""}}},
		{0, []plainFile{{"both", "12", ""}, {"sure", "78", ""}}},
		{1, []plainFile{{"both", "123", ""}, {"loose", "a", ""}, {"sure", "78", ""}}},
		{2, []plainFile{{"both", "1234", ""}, {"loose", "ab", ""}, {"sure", "78", ""}}},
		{3, []plainFile{{"both", "12345", ""}, {"loose", "abc", ""}, {"sure", "78", ""}}},
		{4, []plainFile{{"both", "123456", ""}, {"loose", "abc", ""}, {"sure", "78", ""}}},
		{5, []plainFile{{"both", "123456", ""}, {"loose", "abc", ""}, {"sure", "78", ""}}},
		{1 << 32, []plainFile{{"both", "123456", ""}, {"loose", "abc", ""}, {"sure", "78", ""}}},
		{math.MaxInt, []plainFile{{"both", "123456", ""}, {"loose", "abc", ""}, {"sure", "78", ""}}},
	} {
		steps := []step{
			{appends("both", "12"), api.OK}, {syncs("both"), api.OK}, {appends("both", "34"), api.OK}, {appends("loose", "abc"), api.OK}, {appends("both", "56"), api.OK},
			{appends("sure", "789"), api.OK}, {cuts("sure", 2), api.OK}, {appends("empty", ""), api.OK}, {appends("synced", ""), api.OK}, {syncs("synced"), api.OK}, {appends("cut", "x"), api.OK}, {syncs("cut"), api.OK}, {cuts("cut", 0), api.OK},
			{crashes(c.keep), api.OK},
		}
		mustGo(t, 100, steps, c.left...)
		mustGo(t, 100, append(steps, step{crashes(c.keep), api.OK}, step{crashes(0), api.OK}), c.left...) // all that is left lasts
	}
}

func TestCrashOfEachCut(t *testing.T) {
	whole := "abcdefgh"
	for lasting := range len(whole) + 1 {
		for all := lasting; all <= len(whole); all++ {
			for keep := -2; keep <= len(whole)+2; keep++ {
				d, p := newDisk(t, 20)
				for _, a := range []act{appends("a", whole[:lasting]), syncs("a"), appends("a", whole[lasting:all]), crashes(keep)} {
					mustDo(t, d, p, a)
				}
				left := whole[:min(all, lasting+max(0, keep))]
				if b, err := d.Read("a"); string(b) != left || (err == api.ErrNone) != (left == "") {
					t.Fatalf("Read behind Crash(%d) of %d and %d bytes: %q, %d", keep, lasting, all-lasting, b, err)
				}
				if len(d.List()) == 0 != (left == "") || d.Size() != len(left) { // a file without bytes is gone
					t.Fatal("List, Size", d.List(), d.Size())
				}
				mustDo(t, d, p, appends("a", "more"))
				mustDo(t, d, p, crashes(2))
				if b, _ := d.Read("a"); string(b) != left+"mo" {
					t.Fatalf("Read behind another crash: %q", b)
				}
			}
		}
	}
}

// P11.5

func TestWhatLastsAndWhatIsTheBeginning(t *testing.T) {
	draws := sample.Draws(45)
	torn := 0
	for range 300 {
		d, _ := newDisk(t, 1<<16)
		written, sure := map[string]string{}, map[string]int{}
		for range 60 {
			name := []string{"a", "b", "c"}[draws.Below(3)]
			switch draws.Below(6) {
			case 0, 1, 2:
				b := string(sample.Bytes(draws.Below(20)))
				if err := d.Append(name, []byte(b)); err != api.OK {
					t.Fatal("Append", err)
				}
				written[name] += b
			case 3:
				if d.Sync(name) == api.OK {
					sure[name] = len(written[name])
				}
			case 4:
				if d.Cut(name, sure[name]) == api.OK { // what a cut leaves is what counts as written
					written[name] = written[name][:sure[name]]
				}
			case 5:
				d.Crash(draws.Below(30) - 5)
				for _, name := range []string{"a", "b", "c"} {
					b, _ := d.Read(name)
					if !strings.HasPrefix(written[name], string(b)) || len(b) < sure[name] {
						t.Fatalf("%q is left of %q, of which %d bytes were synced", b, written[name], sure[name])
					}
					if len(b) < len(written[name]) {
						torn++
					}
					written[name], sure[name] = string(b), len(b)
				}
			}
		}
	}
	if torn < 100 {
		t.Error("what was tried tells little", torn)
	}
}

// P11.6

// asksOf is what d answers of one file.
func asksOf(t *testing.T, d *disk.Disk, name string) plainFile {
	t.Helper()
	b, err := d.Read(name)
	n, other := d.Lasts(name)
	if err != other {
		t.Fatal("Read and Lasts", err, other)
	}
	if err != api.OK {
		return plainFile{}
	}
	return plainFile{name, string(b[:n]), string(b[n:])}
}

func TestFilesAreApart(t *testing.T) {
	draws := sample.Draws(46)
	met := 0
	for range 200 {
		all, _ := newDisk(t, 1<<20)
		alone, _ := newDisk(t, 1<<20)
		for _, a := range someActs(draws, 100) {
			if a.call == "swap" && a.touches("a") && a.name != a.text {
				continue
			}
			err := a.do(all)
			if !a.touches("a") && a.call != "crash" {
				continue
			}
			if other := a.do(alone); other != err {
				t.Fatalf("%s: %d, without the others %d", a, err, other)
			}
			if one, other := asksOf(t, all, "a"), asksOf(t, alone, "a"); one != other {
				t.Fatalf("behind %s: %q, without the others %q", a, one, other)
			}
			if len(all.List()) > len(alone.List())+1 {
				met++
			}
		}
	}
	if met < 1000 {
		t.Error("what was tried tells little", met)
	}
}

// What else is on a disk counts by its size alone.
func TestOnlyTheOthersSizeCounts(t *testing.T) {
	draws := sample.Draws(47)
	refused := 0
	for range 200 {
		others, p := newDisk(t, 40)
		for _, a := range []act{appends("b", "12345"), syncs("b"), appends("c", "678"), cuts("c", 3), appends("d", "9"), syncs("d")} {
			mustDo(t, others, p, a)
		}
		one, q := newDisk(t, 40)
		mustDo(t, one, q, appends("x", "abcdefghi"))
		mustDo(t, one, q, syncs("x"))
		for _, a := range someActs(draws, 100) {
			if a.call != "crash" && (a.name != "a" || a.call == "swap" && a.text != "a") {
				continue
			}
			err, other := mustDo(t, others, p, a), mustDo(t, one, q, a)
			if err != other || asksOf(t, others, "a") != asksOf(t, one, "a") {
				t.Fatalf("%s: %d, beside another file of that size %d", a, err, other)
			}
			if err == api.ErrFull {
				refused++
			}
		}
	}
	if refused < 50 {
		t.Error("what was tried tells little", refused)
	}
}

// P11.7

func TestWhatIsRefusedChangesNothing(t *testing.T) {
	draws := sample.Draws(48)
	many := strings.Repeat("x", 200)
	told := map[api.Errno]int{}
	for range 200 {
		d, p := newDisk(t, 60)
		for _, a := range someActs(draws, draws.Below(60)) {
			mustDo(t, d, p, a)
		}
		for _, a := range []act{
			appends("A", ""), appends("", "x"), appends("a", many), appends("e", many), appends("none", many), syncs("none"), cuts("none", 0), cuts("a", -1), cuts("a", 61), cuts("b", 61), cuts("b", math.MinInt),
			removes("none"), swaps("none", "a"), swaps("none", "none"), swaps("a", "A"), swaps("b", ""), swaps("c", many),
		} {
			ahead := p.clone()
			err := a.do(d)
			if err == api.OK {
				t.Fatal("not refused", a)
			}
			mustBeLike(t, d, &ahead)
			told[err]++
		}
		for _, name := range []string{"a", "b", "c"} {
			for _, to := range []string{"a", "b", "c", "e"} {
				if f := asksOf(t, d, name); f.loose == "" {
					continue
				}
				if err := d.Swap(name, to); err != api.ErrState {
					t.Fatal("Swap", name, to, err)
				}
				mustBeLike(t, d, p)
				told[api.ErrState]++
			}
		}
	}
	for _, err := range []api.Errno{api.ErrTitle, api.ErrFull, api.ErrNone, api.ErrArg, api.ErrState} {
		if told[err] < 100 {
			t.Error("what was tried tells little", told)
		}
	}
}
