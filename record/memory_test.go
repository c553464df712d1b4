package record_test

import (
	"bytes"
	"slices"
	"testing"

	"manometer/api"
	"manometer/record"
)

// R4 and R5: what is handed in is neither changed nor kept, what is answered is memory of its own, and the same is answered each time.

// copied is a record in memory of its own, with room behind its lists.
func copied(r api.Record) api.Record {
	r.Labels = append(slices.Clone(r.Labels), of("spare", "spare")...)[:len(r.Labels)]
	r.Points = append(slices.Clone(r.Points), at(77, 77, 77, 77))[:len(r.Points)]
	return r
}

func spoil(r api.Record) {
	clear(r.Labels[:cap(r.Labels)])
	clear(r.Points[:cap(r.Points)])
}

func TestPutOwnsItsMemory(t *testing.T) {
	for _, r := range rights() {
		lent := copied(r)
		record.Check(lent)
		record.Same(lent, lent)
		record.Size(lent)
		first, _ := record.Put(lent)
		second, _ := record.Put(lent)
		mustBe(t, lent, r, "what was lent, behind Put", r)
		if len(r.Labels) < cap(lent.Labels) && lent.Labels[:len(r.Labels)+1][len(r.Labels)].Name != "spare" || lent.Points[:len(r.Points)+1][len(r.Points)] != at(77, 77, 77, 77) {
			t.Fatal("something was written behind what was lent", r)
		}
		clear(first[:cap(first)])
		spoil(lent)
		if !bytes.Equal(second, plainBytes(r)) {
			t.Fatalf("Put of %v shares its memory: %x", r, second)
		}
	}
}

func TestTakeOwnsItsMemory(t *testing.T) {
	for _, r := range rights() {
		b := append(plainBytes(r), 77)
		lent := b[:len(b)-1]
		first, _ := record.Take(lent)
		second, _ := record.Take(lent)
		if !bytes.Equal(b, append(plainBytes(r), 77)) {
			t.Fatalf("Take has changed what was lent of %v", r)
		}
		mustBe(t, first, r, "Take", b)
		spoil(first)
		clear(b)
		mustBe(t, second, r, "Take of bytes that are spoilt then", r)
	}
}
