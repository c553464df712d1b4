package wal_test

import (
	"fmt"
	"maps"
	"slices"
	"testing"

	"manometer/api"
	"manometer/disk"
	"manometer/frame"
	"manometer/wal"
)

// plainFile is a file word by word: what of it lasts, and behind that what does not.
type plainFile struct{ lasting, loose string }

func (f plainFile) whole() string { return f.lasting + f.loose }

// plain is a disk and a log on it, word by word.
type plain struct {
	room            int
	files           map[string]plainFile
	at, count, sure int
}

func plainTitle(n int) string { return fmt.Sprintf("wal.%08d", n) }

// numbers are those of all segments, found by trying what titles each file could have.
func (p *plain) numbers() []int {
	var l []int
	for name := range p.files {
		n := 0
		if got, _ := fmt.Sscanf(name, "wal.%d", &n); got == 1 && n > 0 && n <= 99999999 && plainTitle(n) == name {
			l = append(l, n)
		}
	}
	slices.Sort(l)
	return l
}

func (p *plain) size() int {
	size := 0
	for _, f := range p.files {
		size += len(f.whole())
	}
	return size
}

func (p *plain) segmentsSize() int {
	size := 0
	for _, n := range p.numbers() {
		size += len(p.files[plainTitle(n)].whole())
	}
	return size
}

func framed(b string) string {
	f, err := frame.Put([]byte(b))
	if err != api.OK {
		panic(err)
	}
	return string(f)
}

func (p *plain) Append(b []byte) api.Errno {
	if len(b) > 1<<20 {
		return api.ErrLong
	}
	f, to := framed(string(b)), p.at
	if has := len(p.files[plainTitle(to)].whole()); has > 0 && has+len(f) > 4096 {
		to++
	}
	if to > 99999999 || p.size()+len(f) > p.room {
		return api.ErrFull
	}
	was, there := p.files[plainTitle(to)]
	if !there && len(p.files) == 64 {
		return api.ErrLong
	}
	if to > p.at {
		p.Roll()
	}
	p.files[plainTitle(to)] = plainFile{was.lasting, was.loose + f}
	p.count++
	return api.OK
}

func (p *plain) Sync() api.Errno {
	if f, there := p.files[plainTitle(p.at)]; there {
		p.files[plainTitle(p.at)] = plainFile{f.whole(), ""}
	}
	p.sure = p.count
	return api.OK
}

func (p *plain) Roll() api.Errno {
	if p.at == 99999999 {
		return api.ErrFull
	}
	p.Sync()
	if p.files[plainTitle(p.at)].whole() != "" {
		p.at++
	}
	return api.OK
}

func (p *plain) Drop(n int) api.Errno {
	if n > p.at {
		return api.ErrArg
	}
	for _, old := range p.numbers() {
		if old < n {
			delete(p.files, plainTitle(old))
		}
	}
	return api.OK
}

// crash is what is left, when the power goes.
func (p *plain) crash(keep int) {
	for name, f := range p.files {
		left := f.lasting + f.loose[:min(len(f.loose), max(0, keep))]
		p.files[name] = plainFile{left, ""}
		if left == "" {
			delete(p.files, name)
		}
	}
}

// write puts bytes to a file, as others do.
func (p *plain) write(name, b string) {
	f := p.files[name]
	p.files[name] = plainFile{f.lasting, f.loose + b}
}

// open is what the log's records are.
func (p *plain) open() ([]string, api.Errno) {
	numbers := p.numbers()
	var records []string
	for i, n := range numbers {
		if n != numbers[0]+i {
			return nil, api.ErrForm
		}
	}
	at := 1
	for i, n := range numbers {
		whole := p.files[plainTitle(n)].whole()
		list, size, err := frame.All([]byte(whole))
		for _, b := range list {
			records = append(records, string(b))
		}
		at = n
		switch {
		case err == api.ErrShort && i == len(numbers)-1:
			p.files[plainTitle(n)] = plainFile{whole[:size], ""}
		case err != api.OK:
			return nil, err
		}
	}
	p.at, p.count, p.sure = at, len(records), len(records)
	return records, api.OK
}

func newDisk(t *testing.T, room int) (*disk.Disk, *plain) {
	t.Helper()
	d, err := disk.New(room)
	if err != api.OK {
		t.Fatal("New", err)
	}
	return d, &plain{room: room, files: map[string]plainFile{}}
}

// mustWrite puts bytes to a file, and lets them last or not.
func mustWrite(t *testing.T, d *disk.Disk, p *plain, name, b string, lasting bool) {
	t.Helper()
	if err := d.Append(name, []byte(b)); err != api.OK {
		t.Fatal("Append", err)
	}
	p.write(name, b)
	if lasting {
		d.Sync(name)
		p.files[name] = plainFile{p.files[name].whole(), ""}
	}
}

func texts(l [][]byte) []string {
	var all []string
	for _, b := range l {
		all = append(all, string(b))
	}
	return all
}

// mustOpen opens the log of both, and asks whether its records are the same.
func mustOpen(t *testing.T, d *disk.Disk, p *plain) (*wal.Log, []string) {
	t.Helper()
	l, records, err := wal.Open(d)
	want, other := p.open()
	if err != api.OK || other != api.OK || l == nil {
		t.Fatalf("Open: %d, plainly %d", err, other)
	}
	if got := texts(records); !slices.Equal(got, want) {
		t.Fatalf("Open: %d records %.80q, want %d, %.80q", len(got), got, len(want), want)
	}
	mustBeLike(t, d, l, p)
	return l, want
}

// mustNotOpen asks for that error, and whether the disk is as it was.
func mustNotOpen(t *testing.T, d *disk.Disk, p *plain, want api.Errno) {
	t.Helper()
	if l, records, err := wal.Open(d); l != nil || records != nil || err != want {
		t.Fatalf("Open: %v, %q, %d, want error %d", l, records, err, want)
	}
	mustBeDisk(t, d, p)
}

// mustBeDisk asks for all files of the disk.
func mustBeDisk(t *testing.T, d *disk.Disk, p *plain) {
	t.Helper()
	if got, want := d.List(), slices.Sorted(maps.Keys(p.files)); !slices.Equal(got, want) {
		t.Fatalf("files: %q, want %q", got, want)
	}
	for name, f := range p.files {
		if b, err := d.Read(name); err != api.OK || string(b) != f.whole() {
			t.Fatalf("file %s: %.40x, %d, want %.40x", name, b, err, f.whole())
		}
		if n, err := d.Lasts(name); err != api.OK || n != len(f.lasting) {
			t.Fatalf("%d bytes of the file %s last, %d, want %d", n, name, err, len(f.lasting))
		}
	}
}

// mustBeLike asks for all that a log tells, and for all files of its disk.
func mustBeLike(t *testing.T, d *disk.Disk, l *wal.Log, p *plain) {
	t.Helper()
	mustBeDisk(t, d, p)
	if l.Count() != p.count || l.Sure() != p.sure || l.Segment() != p.at {
		t.Fatalf("Count, Sure, Segment: %d, %d, %d, want %d, %d, %d", l.Count(), l.Sure(), l.Segment(), p.count, p.sure, p.at)
	}
	if got, want := l.Segments(), p.numbers(); !slices.Equal(got, want) {
		t.Fatalf("Segments: %d, want %d", got, want)
	}
	if got, want := l.Size(), p.segmentsSize(); got != want {
		t.Fatalf("Size: %d, want %d", got, want)
	}
}

// written is a log, or one word by word.
type written interface {
	Append(b []byte) api.Errno
	Sync() api.Errno
	Roll() api.Errno
	Drop(n int) api.Errno
}

// act is a call that changes a log.
type act struct {
	call string
	text string
	n    int
}

func appends(b string) act { return act{"append", b, 0} }
func syncs() act           { return act{"sync", "", 0} }
func rolls() act           { return act{"roll", "", 0} }
func drops(n int) act      { return act{"drop", "", n} }

func (a act) String() string {
	return fmt.Sprintf("%s of %d bytes %.20q, %d", a.call, len(a.text), a.text, a.n)
}

func (a act) do(l written) api.Errno {
	switch a.call {
	case "append":
		return l.Append([]byte(a.text))
	case "sync":
		return l.Sync()
	case "roll":
		return l.Roll()
	}
	return l.Drop(a.n)
}

// mustDo makes the call, and asks what it answered and what log and disk are then.
func mustDo(t *testing.T, d *disk.Disk, l *wal.Log, p *plain, a act) api.Errno {
	t.Helper()
	got, want := a.do(l), a.do(p)
	if got != want {
		t.Fatalf("%s: %d, want %d", a, got, want)
	}
	mustBeLike(t, d, l, p)
	return got
}

// step is a call, and what it is to answer.
type step struct {
	act
	want api.Errno
}

// mustGo makes the calls, one by one.
func mustGo(t *testing.T, d *disk.Disk, l *wal.Log, p *plain, steps ...step) {
	t.Helper()
	for i, s := range steps {
		if got := mustDo(t, d, l, p, s.act); got != s.want {
			t.Fatalf("%d: %s: %d, want %d", i, s.act, got, s.want)
		}
	}
}
