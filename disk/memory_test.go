package disk_test

import (
	"bytes"
	"slices"
	"testing"

	"manometer/api"
	"manometer/sample"
)

// P11.2 and P11.3 by R4: nothing that is handed in is kept or written, and what is answered is the caller's own.

// spoil writes all over what was lent or answered, and over the room behind it.
func spoil[E any](l []E, with E) {
	l = l[:cap(l)]
	for i := range l {
		l[i] = with
	}
}

func TestAppendKeepsNothing(t *testing.T) {
	d, p := newDisk(t, 1<<16)
	for _, size := range []int{0, 1, 2, 7, 8, 100, 4096} {
		for _, name := range []string{"a", "b", "b"} { // to a new file, and to one that is there
			whole := sample.Bytes(size + 3)
			was := bytes.Clone(whole)
			if err := d.Append(name, whole[:size]); err != api.OK {
				t.Fatal("Append", err)
			}
			p.Append(name, whole[:size])
			if !bytes.Equal(whole, was) {
				t.Fatal("what was handed in is another")
			}
			spoil(whole, '!')
			mustBeLike(t, d, p)
		}
		mustDo(t, d, p, syncs("a"))
		mustDo(t, d, p, swaps("a", "c"))
	}
}

func TestReadIsTheCallersOwn(t *testing.T) {
	draws := sample.Draws(49)
	d, p := newDisk(t, 500)
	for _, a := range someActs(draws, 600) {
		mustDo(t, d, p, a)
		for _, f := range p.files {
			first, _ := d.Read(f.name)
			second, _ := d.Read(f.name)
			spoil(first, '!')
			if string(second) != f.lasting+f.loose {
				t.Fatal("two answers share memory")
			}
			mustBeLike(t, d, p)
		}
	}
}

// What was read stays as it is, whatever comes.
func TestReadIsOfThatTime(t *testing.T) {
	draws := sample.Draws(50)
	for range 100 {
		d, p := newDisk(t, 300)
		var read [][]byte
		var want []string
		for _, a := range someActs(draws, 60) {
			mustDo(t, d, p, a)
			for _, f := range p.files {
				b, _ := d.Read(f.name)
				read, want = append(read, b), append(want, f.lasting+f.loose)
			}
		}
		for i, b := range read {
			if string(b) != want[i] {
				t.Fatalf("what was read as %q is %q", want[i], b)
			}
		}
	}
}

func TestListIsTheCallersOwn(t *testing.T) {
	d, p := newDisk(t, 9)
	for _, name := range []string{"b", "a", "c"} {
		mustDo(t, d, p, appends(name, name))
	}
	first, second := d.List(), d.List()
	spoil(first, "spoilt")
	if !slices.Equal(second, []string{"a", "b", "c"}) {
		t.Error("two answers share memory", second)
	}
	mustBeLike(t, d, p)
}
