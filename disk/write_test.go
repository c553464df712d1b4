package disk_test

import (
	"math"
	"strconv"
	"strings"
	"testing"

	"manometer/api"
	"manometer/sample"
)

// P11.2

// step is a call, and what it is to answer.
type step struct {
	act
	want api.Errno
}

// mustGo makes the calls, one by one.
func mustGo(t *testing.T, room int, steps []step, left ...plainFile) {
	t.Helper()
	d, p := newDisk(t, room)
	for i, s := range steps {
		if got := s.do(d); got != s.want {
			t.Fatalf("%d: %s: %d, want %d", i, s.act, got, s.want)
		}
		if got := s.do(p); got != s.want {
			t.Fatalf("%d: %s is plainly %d, want %d", i, s.act, got, s.want)
		}
		mustBeLike(t, d, p)
	}
	mustBeLike(t, d, &plain{room, left})
}

func TestAppendAndSyncOfSome(t *testing.T) {
	mustGo(t, 10, []step{
		{appends("a", "ab"), api.OK}, {syncs("a"), api.OK}, {appends("a", "cd"), api.OK}, {appends("a", ""), api.OK},
		{appends("b", ""), api.OK}, // a file of no bytes is one
		{syncs("b"), api.OK}, {syncs("c"), api.ErrNone}, {syncs(""), api.ErrNone}, {syncs("A"), api.ErrNone},
		{appends("c", "1234567"), api.ErrFull}, {syncs("c"), api.ErrNone}, // what is refused makes no file
		{appends("b", "1234567"), api.ErrFull}, {appends("b", "123456"), api.OK},
		{appends("c", "1"), api.ErrFull}, {appends("c", ""), api.OK}, {appends("a", "1"), api.ErrFull}, {appends("a", ""), api.OK},
		{appends("A", ""), api.ErrTitle}, {appends("A", "1"), api.ErrTitle}, {appends("", strings.Repeat("1", 99)), api.ErrTitle},
		{syncs("b"), api.OK}, {syncs("b"), api.OK},
	}, plainFile{"a", "ab", "cd"}, plainFile{"b", "123456", ""}, plainFile{"c", "", ""})
}

func TestCutOfSome(t *testing.T) {
	mustGo(t, 10, []step{
		{cuts("a", 0), api.ErrNone}, {cuts("a", -1), api.ErrNone}, {cuts("", 0), api.ErrNone}, {cuts("A", 1), api.ErrNone},
		{appends("a", "abcd"), api.OK}, {syncs("a"), api.OK}, {appends("a", "efgh"), api.OK},
		{cuts("a", 9), api.ErrArg}, {cuts("a", -1), api.ErrArg}, {cuts("a", math.MinInt), api.ErrArg}, {cuts("a", math.MaxInt), api.ErrArg}, {cuts("a", 1<<32), api.ErrArg}, {cuts("a", -1<<32), api.ErrArg},
		{cuts("a", 6), api.OK}, {cuts("a", 7), api.ErrArg}, // what was cut off is gone, and what did not last does
		{appends("a", "XY"), api.OK}, {cuts("a", 8), api.OK}, {crashes(0), api.OK}, {cuts("a", 8), api.OK}, // nothing is cut off, and all lasts
		{cuts("a", 3), api.OK}, {appends("a", "1234567"), api.OK}, {appends("a", "8"), api.ErrFull}, // there is room again
		{cuts("a", 4), api.OK}, {appends("b", "123456"), api.OK}, {cuts("b", 0), api.OK}, {cuts("b", 1), api.ErrArg}, {cuts("b", 0), api.OK}, {appends("b", "x"), api.OK},
	}, plainFile{"a", "abc1", ""}, plainFile{"b", "", "x"})
}

func TestRemoveOfSome(t *testing.T) {
	mustGo(t, 4, []step{
		{removes("a"), api.ErrNone}, {removes(""), api.ErrNone}, {removes("A"), api.ErrNone},
		{appends("a", "abcd"), api.OK}, {appends("b", "x"), api.ErrFull}, {removes("b"), api.ErrNone}, {removes("a"), api.OK}, {removes("a"), api.ErrNone}, {syncs("a"), api.ErrNone},
		{appends("b", "wxyz"), api.OK}, {syncs("b"), api.OK}, {removes("b"), api.OK}, {crashes(9), api.OK}, {cuts("b", 0), api.ErrNone}, // what is removed is gone behind a crash, too
		{appends("b", ""), api.OK}, {removes("b"), api.OK}, {appends("b", "w"), api.OK}, // a file of that name is a new one
		{appends("a", "x"), api.OK},
	}, plainFile{"a", "", "x"}, plainFile{"b", "", "w"})
}

func TestSwapOfSome(t *testing.T) {
	mustGo(t, 9, []step{
		{swaps("a", "b"), api.ErrNone}, {swaps("a", "a"), api.ErrNone}, {swaps("a", "A"), api.ErrNone}, {swaps("", ""), api.ErrNone}, {swaps("A", "a"), api.ErrNone},
		{appends("a", "abc"), api.OK}, {swaps("a", "A"), api.ErrTitle}, {swaps("a", ""), api.ErrTitle}, {swaps("a", "b"), api.ErrState}, {swaps("a", "a"), api.ErrState},
		{syncs("a"), api.OK}, {swaps("a", "A"), api.ErrTitle}, {swaps("a", strings.Repeat("a", 33)), api.ErrTitle}, {swaps("a", "a"), api.OK}, {swaps("a", "b"), api.OK}, {swaps("a", "b"), api.ErrNone},
		{appends("a", "uvwxyz"), api.OK}, {appends("b", "d"), api.ErrFull}, {swaps("b", "a"), api.OK}, // what had the name is gone, whether it lasts or not
		{crashes(9), api.OK}, {swaps("b", "a"), api.ErrNone}, {appends("b", "uvwxyz"), api.OK}, {syncs("b"), api.OK}, {swaps("b", "a"), api.OK}, {crashes(0), api.OK},
		{appends("a", "1"), api.OK}, {swaps("a", "c"), api.ErrState}, {cuts("a", 7), api.OK}, {swaps("a", "c"), api.OK}, // what is cut lasts
		{appends("c", "2"), api.OK}, {crashes(1), api.OK}, {swaps("c", strings.Repeat("c", 32)), api.OK}, // what a crash leaves, too
		{appends("e", ""), api.OK}, {swaps("e", "a"), api.OK}, {swaps(strings.Repeat("c", 32), "e"), api.OK}, {swaps("a", "d"), api.OK}, // a file of no bytes has none that do not last
	}, plainFile{"d", "", ""}, plainFile{"e", "uvwxyz12", ""})
}

func TestSwapLeavesTheOthers(t *testing.T) {
	mustGo(t, 9, []step{
		{appends("a", "1"), api.OK}, {syncs("a"), api.OK}, {appends("b", "2"), api.OK}, {appends("c", "3"), api.OK}, {syncs("c"), api.OK}, {appends("c", "4"), api.OK}, {appends("d", ""), api.OK},
		{swaps("a", "e"), api.OK}, {swaps("e", "f"), api.OK}, {swaps("b", "f"), api.ErrState}, {swaps("c", "f"), api.ErrState}, {swaps("f", "f"), api.OK},
	}, plainFile{"f", "1", ""}, plainFile{"b", "", "2"}, plainFile{"c", "3", "4"}, plainFile{"d", "", ""})
}

func TestNames(t *testing.T) {
	right := []string{"-", ".", "..", "...", "a", "z", "0", "9", "-a", ".a", "a.b-c", "wal.00000001", "block.new", strings.Repeat("a", 31), strings.Repeat("-", 32), strings.Repeat(".9z-", 8)}
	wrong := []string{"", " ", "A", "Z", "_", "/", "a/b", "a b", "a\x00", "\x00", "a_", "aZ", "é", "aé", "\xff", "a\n", "a\x80", "ａ", ",", ":", "`", "{", "+", strings.Repeat("a", 33), strings.Repeat("a", 1<<16), strings.Repeat("a", 31) + "é"}
	for c := range 256 {
		one := string([]byte{byte(c)})
		few := []string{one, one + "a", "a" + one, "0" + one + "0", strings.Repeat("b", 31) + one}
		if strings.Contains("abcdefghijklmnopqrstuvwxyz0123456789-.", one) {
			right = append(right, few...)
		} else {
			wrong = append(wrong, few...)
		}
	}
	for _, name := range right {
		d, p := newDisk(t, 9)
		for _, a := range []act{appends(name, "x"), appends("other", "y"), syncs("other"), swaps("other", name), appends(name, "z"), syncs(name), swaps(name, name), cuts(name, 1), removes(name)} {
			if err := mustDo(t, d, p, a); err != api.OK {
				t.Fatal(a, err)
			}
		}
	}
	for _, name := range wrong {
		d, p := newDisk(t, 9)
		mustDo(t, d, p, appends("a", "x"))
		mustDo(t, d, p, syncs("a"))
		for _, a := range []act{appends(name, ""), appends(name, "x"), appends(name, "0123456789"), swaps("a", name)} {
			if err := mustDo(t, d, p, a); err != api.ErrTitle {
				t.Fatal(a, err)
			}
		}
		for _, a := range []act{syncs(name), cuts(name, 0), cuts(name, -1), removes(name), swaps(name, "b"), swaps(name, name)} {
			if err := mustDo(t, d, p, a); err != api.ErrNone {
				t.Fatal(a, err)
			}
		}
	}
}

func TestMostFiles(t *testing.T) {
	d, p := newDisk(t, 100)
	for i := range 64 {
		if err := mustDo(t, d, p, appends("f"+strconv.Itoa(i), strings.Repeat("x", i%2))); err != api.OK { // those without bytes count
			t.Fatal(i, err)
		}
	}
	for _, s := range []step{
		{appends("g", ""), api.ErrLong}, {appends("g", "x"), api.ErrLong}, {appends("g", strings.Repeat("x", 101)), api.ErrLong}, // ahead of ErrFull
		{appends("G", ""), api.ErrTitle}, {appends("", strings.Repeat("x", 101)), api.ErrTitle}, // behind ErrTitle
		{appends("f0", "x"), api.OK}, {appends("f63", ""), api.OK}, {appends("f63", strings.Repeat("x", 101)), api.ErrFull}, // those that are there go on
		{syncs("f0"), api.OK}, {swaps("f0", "g"), api.OK}, {appends("f0", ""), api.ErrLong}, // another name is no file more
		{swaps("g", "f1"), api.OK}, {appends("f0", ""), api.OK}, {appends("g", ""), api.ErrLong}, // of two one is left
		{cuts("f3", 0), api.OK}, {appends("g", ""), api.ErrLong}, {removes("f3"), api.OK}, {appends("g", "y"), api.OK}, {appends("f3", ""), api.ErrLong},
	} {
		if err := mustDo(t, d, p, s.act); err != s.want {
			t.Fatal(s.act, err)
		}
	}
	mustDo(t, d, p, crashes(1)) // those without bytes are gone
	if n := len(d.List()); n != 32 {
		t.Error("files behind the crash", n)
	}
	mustDo(t, d, p, appends("f3", ""))
}

func TestRoom(t *testing.T) {
	for _, room := range []int{0, 1, 2, 3, 7, 100} {
		for _, had := range []int{0, 1, room / 2, room} {
			if had > room {
				continue
			}
			for _, b := range []int{0, 1, room - had - 1, room - had, room - had + 1, room, room + 1, 1 << 16} {
				if b < 0 {
					continue
				}
				want := api.OK
				if had+b > room {
					want = api.ErrFull
				}
				for _, synced := range []string{"a", "b", "c"} {
					d, p := newDisk(t, room)
					mustDo(t, d, p, appends("a", strings.Repeat("x", had/3)))
					mustDo(t, d, p, appends("b", strings.Repeat("y", had-had/3)))
					mustDo(t, d, p, syncs(synced))
					for _, name := range []string{"a", "b", "c"} { // wherever it goes, all files count
						c, q := d.Clone(), p.clone()
						if err := mustDo(t, c, &q, appends(name, strings.Repeat("z", b))); err != want {
							t.Fatalf("Append of %d bytes to %s: %d, beside %d of %d", b, name, err, had, room)
						}
					}
				}
			}
		}
	}
}

func TestRoomIsFreedAgain(t *testing.T) {
	full := []step{{appends("a", "12345"), api.OK}, {syncs("a"), api.OK}, {appends("b", "67"), api.OK}, {syncs("b"), api.OK}, {appends("b", "890"), api.OK}, {appends("c", "x"), api.ErrFull}}
	for _, c := range []struct {
		frees act
		room  int
	}{
		{cuts("a", 2), 3}, {cuts("b", 4), 1}, {removes("a"), 5}, {removes("b"), 5}, {swaps("a", "b"), 5}, {crashes(0), 3}, {crashes(-5), 3}, {crashes(2), 1}, {crashes(3), 0}, {crashes(99), 0},
		{syncs("a"), 0}, {syncs("b"), 0}, {swaps("a", "c"), 0}, {swaps("a", "a"), 0}, {cuts("a", 5), 0},
	} {
		d, p := newDisk(t, 10)
		for _, s := range append(full, step{c.frees, api.OK}, step{appends("d", strings.Repeat("y", c.room+1)), api.ErrFull}, step{appends("d", strings.Repeat("y", c.room)), api.OK}, step{appends("d", "z"), api.ErrFull}) {
			if err := mustDo(t, d, p, s.act); err != s.want {
				t.Fatal(c.frees, s.act, err)
			}
		}
	}
}

func TestTheGreatestDisk(t *testing.T) {
	whole := string(sample.Bytes(1 << 24))
	for _, parts := range []int{1, 2, 64} {
		d, p := newDisk(t, 1<<24)
		size := len(whole) / parts
		for i := range parts {
			if err := mustDo(t, d, p, appends("f"+strconv.Itoa(i), whole[i*size:(i+1)*size])); err != api.OK {
				t.Fatal(i, err)
			}
		}
		if err := mustDo(t, d, p, appends("f0", "x")); err != api.ErrFull || d.Size() != 1<<24 {
			t.Fatal(err, d.Size())
		}
		mustDo(t, d, p, syncs("f0"))
		mustDo(t, d, p, appends("f0", ""))
		mustDo(t, d, p, crashes(5))
		if want := size + 5*(parts-1); d.Size() != want {
			t.Fatal("Size", d.Size(), want)
		}
		mustDo(t, d, p, cuts("f0", 1))
		mustDo(t, d, p, appends("f0", whole[:size]))
	}
	d, p := newDisk(t, 1<<24)
	if err := mustDo(t, d, p, appends("a", whole+"x")); err != api.ErrFull {
		t.Fatal(err)
	}
}
