package disk_test

import (
	"fmt"
	"slices"
	"strings"
	"testing"

	"manometer/api"
	"manometer/disk"
	"manometer/sample"
)

// plainFile is a file word by word: what of it lasts, and behind that what does not.
type plainFile struct{ name, lasting, loose string }

// plain is a disk word by word: its files in any order, gone through by each call.
type plain struct {
	room  int
	files []plainFile
}

func (p plain) clone() plain { return plain{p.room, slices.Clone(p.files)} }

// at is the place of the file of that name, -1 without one.
func (p plain) at(name string) int {
	for i, f := range p.files {
		if f.name == name {
			return i
		}
	}
	return -1
}

func (p plain) size() int {
	size := 0
	for _, f := range p.files {
		size += len(f.lasting) + len(f.loose)
	}
	return size
}

func (p plain) names() []string {
	var l []string
	for _, f := range p.files {
		l = append(l, f.name)
	}
	slices.Sort(l)
	return l
}

// plainName tells what is a name, by a list of all bytes of one.
func plainName(name string) bool {
	return name != "" && len(name) <= 32 && strings.Trim(name, "abcdefghijklmnopqrstuvwxyz0123456789-.") == ""
}

func (p *plain) Append(name string, b []byte) api.Errno {
	i := p.at(name)
	switch {
	case !plainName(name):
		return api.ErrTitle
	case i < 0 && len(p.files) == 64:
		return api.ErrLong
	case p.size()+len(b) > p.room:
		return api.ErrFull
	case i < 0:
		p.files = append(p.files, plainFile{name, "", string(b)})
	default:
		p.files[i].loose += string(b)
	}
	return api.OK
}

func (p *plain) Sync(name string) api.Errno {
	i := p.at(name)
	if i < 0 {
		return api.ErrNone
	}
	p.files[i] = plainFile{name, p.files[i].lasting + p.files[i].loose, ""}
	return api.OK
}

func (p *plain) Cut(name string, n int) api.Errno {
	i := p.at(name)
	if i < 0 {
		return api.ErrNone
	}
	whole := p.files[i].lasting + p.files[i].loose
	if n < 0 || n > len(whole) {
		return api.ErrArg
	}
	p.files[i] = plainFile{name, whole[:n], ""}
	return api.OK
}

func (p *plain) Remove(name string) api.Errno {
	i := p.at(name)
	if i < 0 {
		return api.ErrNone
	}
	p.files = slices.Delete(p.files, i, i+1)
	return api.OK
}

func (p *plain) Swap(from, to string) api.Errno {
	i := p.at(from)
	switch {
	case i < 0:
		return api.ErrNone
	case !plainName(to):
		return api.ErrTitle
	case p.files[i].loose != "":
		return api.ErrState
	case from != to:
		f := p.files[i]
		p.Remove(from)
		p.Remove(to)
		p.files = append(p.files, plainFile{to, f.lasting, ""})
	}
	return api.OK
}

func (p *plain) Crash(keep int) {
	var left []plainFile
	for _, f := range p.files {
		kept := f.lasting
		for i := range len(f.loose) {
			if i < keep {
				kept += f.loose[i : i+1]
			}
		}
		if kept != "" {
			left = append(left, plainFile{f.name, kept, ""})
		}
	}
	p.files = left
}

// changed is a disk, or one word by word.
type changed interface {
	Append(name string, b []byte) api.Errno
	Sync(name string) api.Errno
	Cut(name string, n int) api.Errno
	Remove(name string) api.Errno
	Swap(from, to string) api.Errno
	Crash(keep int)
}

// act is a call that may change a disk.
type act struct {
	call, name, text string // text is what is appended, or the other name
	n                int
}

func (a act) String() string { return fmt.Sprintf("%s %.40q %.40q %d", a.call, a.name, a.text, a.n) }

func appends(name, b string) act       { return act{"append", name, b, 0} }
func syncs(name string) act            { return act{"sync", name, "", 0} }
func cuts(name string, n int) act      { return act{"cut", name, "", n} }
func removes(name string) act          { return act{"remove", name, "", 0} }
func swaps(from, to string) act        { return act{"swap", from, to, 0} }
func crashes(keep int) act             { return act{"crash", "", "", keep} }
func (a act) touches(name string) bool { return a.name == name || a.call == "swap" && a.text == name }

// do makes the call.
func (a act) do(d changed) api.Errno {
	switch a.call {
	case "append":
		return d.Append(a.name, []byte(a.text))
	case "sync":
		return d.Sync(a.name)
	case "cut":
		return d.Cut(a.name, a.n)
	case "remove":
		return d.Remove(a.name)
	case "swap":
		return d.Swap(a.name, a.text)
	}
	d.Crash(a.n)
	return api.OK
}

// newDisk is a disk without files of that room, and what it is plainly.
func newDisk(t *testing.T, room int) (*disk.Disk, *plain) {
	t.Helper()
	d, err := disk.New(room)
	if err != api.OK || d == nil {
		t.Fatal("New", room, d, err)
	}
	return d, &plain{room: room}
}

// mustBeLike asks d all that can be asked of it: of the files that it has, and of others.
func mustBeLike(t *testing.T, d *disk.Disk, p *plain) {
	t.Helper()
	if d.Room() != p.room || d.Size() != p.size() {
		t.Fatalf("Room and Size: %d and %d, want %d and %d", d.Room(), d.Size(), p.room, p.size())
	}
	if got, want := d.List(), p.names(); !slices.Equal(got, want) {
		t.Fatalf("List: %q, want %q", got, want)
	}
	for _, f := range p.files {
		if got, err := d.Read(f.name); err != api.OK || string(got) != f.lasting+f.loose {
			t.Fatalf("Read of %q: %.40q, %d, want %.40q, %.40q", f.name, got, err, f.lasting, f.loose)
		}
		if n, err := d.Lasts(f.name); err != api.OK || n != len(f.lasting) {
			t.Fatalf("Lasts of %q: %d, %d, want %d", f.name, n, err, len(f.lasting))
		}
	}
	for _, name := range []string{"", "a", "b", "c", "none", "A", "a\x00", "aa", "-", ".", "é"} {
		if p.at(name) >= 0 {
			continue
		}
		if got, err := d.Read(name); len(got) != 0 || err != api.ErrNone {
			t.Fatalf("Read of %q: %q, %d", name, got, err)
		}
		if n, err := d.Lasts(name); n != 0 || err != api.ErrNone {
			t.Fatalf("Lasts of %q: %d, %d", name, n, err)
		}
	}
}

// mustDo makes the call, and asks what it answered and what the disk is then.
func mustDo(t *testing.T, d *disk.Disk, p *plain, a act) api.Errno {
	t.Helper()
	got, want := a.do(d), a.do(p)
	if got != want {
		t.Fatalf("%s: %d, want %d", a, got, want)
	}
	mustBeLike(t, d, p)
	return got
}

// someActs are calls that look like any, of few files; most are taken.
func someActs(d *sample.Draw, count int) []act {
	names := []string{"a", "b", "c", "d.new", "wal.00000001"}
	var l []act
	for range count {
		name, other := names[d.Below(len(names))], names[d.Below(len(names))]
		switch d.Below(20) {
		case 0, 1, 2, 3, 4, 5:
			l = append(l, appends(name, string(sample.Bytes(d.Below(9)))))
		case 6:
			l = append(l, appends(name, string(sample.Bytes(d.Below(60)))))
		case 7, 8, 9:
			l = append(l, syncs(name))
		case 10, 11:
			l = append(l, cuts(name, d.Below(30)-1))
		case 12:
			l = append(l, removes(name))
		case 13, 14:
			l = append(l, swaps(name, other))
		case 15:
			l = append(l, syncs(name), swaps(name, other))
		case 16:
			l = append(l, crashes(d.Below(12)-2))
		case 17:
			l = append(l, appends("A", "x"), appends("", "x"), swaps(name, "a/b"))
		case 18:
			l = append(l, cuts("none", 0), removes("none"), syncs("none"), swaps("none", name))
		case 19:
			l = append(l, appends(name, ""), syncs(name))
		}
	}
	return l
}
