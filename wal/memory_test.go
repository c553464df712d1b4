package wal_test

import (
	"bytes"
	"slices"
	"strconv"
	"strings"
	"testing"

	"manometer/api"
	"manometer/sample"
	"manometer/wal"
)

// P12.1 to P12.3 by R4: nothing that is handed in is kept or written, and what is answered is the caller's own.

// spoil writes all over what was lent or answered, and over the room behind it.
func spoil[E any](l []E, with E) {
	l = l[:cap(l)]
	for i := range l {
		l[i] = with
	}
}

func TestAppendKeepsNothing(t *testing.T) {
	d, p := newDisk(t, 1<<16)
	l, _ := mustOpen(t, d, p)
	for _, size := range []int{0, 1, 7, 127, 128, 3000, 5000} {
		whole := sample.Bytes(size + 9)
		was := bytes.Clone(whole)
		if err := l.Append(whole[:size]); err != api.OK {
			t.Fatal("Append", err)
		}
		p.Append(was[:size])
		if !bytes.Equal(whole, was) {
			t.Fatal("what was handed in is another")
		}
		spoil(whole, '!')
		mustBeLike(t, d, l, p)
	}
	for _, b := range [][]byte{nil, {}} { // nil and empty are the same
		if err := l.Append(b); err != api.OK {
			t.Fatal("Append", err)
		}
		p.Append(b)
		mustBeLike(t, d, l, p)
	}
}

func TestRecordsAreTheCallersOwn(t *testing.T) {
	d, p := newDisk(t, 1<<16)
	l, _ := mustOpen(t, d, p)
	for i := range 40 {
		mustDo(t, d, l, p, appends(strings.Repeat("x", i*i)))
	}
	_, first, _ := wal.Open(d)
	_, second, _ := wal.Open(d)
	for i, b := range first {
		spoil(b, '!')
		for j, other := range first[i+1:] {
			if string(other) != strings.Repeat("x", (i+1+j)*(i+1+j)) {
				t.Fatal("two records share memory", i, i+1+j)
			}
		}
	}
	spoil(first, []byte("spoilt"))
	for i, b := range second {
		if string(b) != strings.Repeat("x", i*i) {
			t.Fatal("two answers share memory", i)
		}
	}
	mustBeLike(t, d, l, p)
	mustOpen(t, d, p)
}

func TestSegmentsAreTheCallersOwn(t *testing.T) {
	d, p := newDisk(t, 1<<16)
	l, _ := mustOpen(t, d, p)
	for range 5 {
		mustDo(t, d, l, p, appends(sized(4000)))
	}
	first, second := l.Segments(), l.Segments()
	spoil(first, 77)
	if !slices.Equal(second, []int{1, 2, 3, 4, 5}) {
		t.Fatal("two answers share memory", second)
	}
	mustBeLike(t, d, l, p)
}

// R5

func TestTheSameIsToldEachTime(t *testing.T) {
	told := func() string {
		var all strings.Builder
		draws := sample.Draws(65)
		d, p := newDisk(t, 40000)
		l, _ := mustOpen(t, d, p)
		for range 200 {
			a := []act{appends(drawn(draws)), appends(drawn(draws)), syncs(), rolls(), drops(draws.Below(l.Segment() + 2))}[draws.Below(5)]
			all.WriteString(strconv.Itoa(int(mustDo(t, d, l, p, a))) + " " + strings.Join(d.List(), " ") + "\n")
		}
		return all.String()
	}
	first := told()
	for range 5 {
		if again := told(); again != first {
			t.Fatalf("another time\n%s, the first time\n%s", again, first)
		}
	}
}
