package block_test

import (
	"encoding/hex"
	"math"
	"slices"
	"strings"
	"testing"

	"manometer/api"
	"manometer/block"
	"manometer/labels"
	"manometer/sample"
	"manometer/xor"
)

// P15.2

// real1 is the value 1.
const real1 = 0x3ff0000000000000

func TestPutOfSome(t *testing.T) {
	a := of("a", "x")
	for _, c := range []struct {
		l    []api.Series
		want string
	}{
		{nil, "6d6e623100 09ec9c77"},
		{list(ser(1, a, pt(0, real1, 1))), "6d6e623101 01 0101610178 01 0b 0001003ff0000000000000 02 23b22bff"},
		{
			list(ser(1, nil), ser(300, a, pt(0, real1, 3), pt(10, real1, 1))),
			"6d6e623102 01 00 00 ac02 0101610178 02 0d 0002003ff00000000000000a00 06 03 2bc42fae",
		},
	} {
		want, err := hex.DecodeString(strings.ReplaceAll(c.want, " ", ""))
		if err != nil {
			t.Fatal(err)
		}
		if got := mustBack(t, c.l); !slices.Equal(got, want) {
			t.Errorf("Put of %v: %x, want %x", c.l, got, want)
		}
	}
}

func TestPutOfEachCount(t *testing.T) {
	d := sample.Draws(73)
	for n := range 365 {
		mustBack(t, list(ser(1, of("a", "x"), many(n)...)))
		mustBack(t, list(ser(5, nil, wild(d, n)...), ser(6, of("a", "x"), steady(n)...)))
	}
}

func TestPutParts(t *testing.T) {
	p := many(241)
	var all []api.Sample
	for _, one := range p {
		all = append(all, at(one.T, one.V))
	}
	parts := []string{"mnb1\x01", "\x09", "\x00", "\xf1\x01", chunked(all[:120]...), chunked(all[120:240]...), chunked(all[240])}
	parts = append(parts, vi(241), strings.Repeat("\x01", 240)) // each write is one below the one ahead
	if got := mustBack(t, list(ser(9, nil, p...))); !slices.Equal(got, sealed(joined(parts...))) {
		t.Errorf("%q", got)
	}
}

func TestPutOfSeqs(t *testing.T) {
	var p []api.Point
	for i, seq := range []uint64{math.MaxUint64, 1, high, 1, high - 1, high, high + 1, math.MaxUint64, math.MaxUint64, 2} {
		p = append(p, pt(int64(i), 0, seq))
	}
	b := mustBack(t, list(ser(1, nil, p...), ser(2, of("a", "x"), pt(0, 0, 5))))
	steps := vi(-1) + vi(2) + vi(math.MaxInt64) + vi(-math.MaxInt64) + vi(math.MaxInt64-1) + vi(1) + vi(1) + vi(math.MaxInt64-1) + vi(0) + vi(3)
	behind := "\x02\x01\x01a\x01x\x01" + chunked(at(0, 0)) + vi(5) // the next series' numbers are told from 0 on
	if !slices.Equal(b[len(b)-4-len(steps)-len(behind):len(b)-4], []byte(steps+behind)) {
		t.Errorf("%q", b)
	}
}

// P15.3

// body is what stands between mark and sum, told by its parts, as a block.
func body(parts ...string) []byte {
	return sealed(joined(append([]string{"mnb1"}, parts...)...))
}

func TestTakeShort(t *testing.T) {
	whole := mustBack(t, nil)
	for n := range 9 {
		mustSpoil(t, whole[:n], api.ErrShort)
		mustSpoil(t, sample.Bytes(n), api.ErrShort)
		mustSpoil(t, make([]byte, n), api.ErrShort)
	}
	mustSpoil(t, nil, api.ErrShort)
	mustSpoil(t, body(), api.ErrShort)
	mustSpoil(t, sealed([]byte("mnb2")), api.ErrShort)
}

func TestTakeMark(t *testing.T) {
	whole := mustBack(t, list(ser(1, nil)))
	for i := range 4 {
		b := slices.Clone(whole[:len(whole)-4])
		b[i] ^= 0x20
		mustSpoil(t, sealed(b), api.ErrForm)
		mustSpoil(t, append(b, 0, 0, 0, 0), api.ErrForm) // also where the sum is another one
	}
	mustSpoil(t, make([]byte, 9), api.ErrForm)
	mustSpoil(t, sealed([]byte("mnb2\x00")), api.ErrForm)
	mustSpoil(t, []byte("Mnb1\x00\x00\x00\x00\x00"), api.ErrForm)
}

func TestTakeSum(t *testing.T) {
	whole := mustBack(t, list(ser(1, nil, pt(5, 7, 1))))
	for i := 4; i < len(whole); i++ {
		b := slices.Clone(whole)
		b[i]++
		mustSpoil(t, b, api.ErrSum)
	}
	mustSpoil(t, []byte("mnb1\x00\x00\x00\x00\x00"), api.ErrSum)
	mustSpoil(t, []byte("mnb1\xff\x00\x00\x00\x00"), api.ErrSum) // ahead of what lies between
	mustSpoil(t, whole[:len(whole)-1], api.ErrSum)
	mustSpoil(t, append(slices.Clone(whole), 0), api.ErrSum)
	turned := slices.Clone(whole)
	slices.Reverse(turned[len(turned)-4:])
	mustSpoil(t, turned, api.ErrSum)
}

// badNumbers are bytes that are no number in few bytes, whatever stands behind them but in the last, and why.
func badNumbers() map[string]api.Errno {
	return map[string]api.Errno{
		"\x80\x00":                         api.ErrForm,
		"\xff\x80\x00":                     api.ErrForm,
		strings.Repeat("\x80", 10):         api.ErrOver,
		strings.Repeat("\xff", 9) + "\x02": api.ErrOver,
		strings.Repeat("\xff", 11):         api.ErrOver,
	}
}

// spot is a part of a block, and others that are wrong in its place, each with its error.
type spot struct {
	right string
	wrong map[string]api.Errno
}

// number is a spot of a number in few bytes, with others that are wrong.
func number(n string, wrong map[string]api.Errno) spot {
	all := badNumbers()
	for part, err := range wrong {
		all[part] = err
	}
	return spot{n, all}
}

// spots are the parts of a block of two series, the first one with two chunks, and what may be wrong with each.
func spots() []spot {
	first := []api.Sample{}
	for i := range 120 {
		first = append(first, at(int64(i), 7))
	}
	chunk, _ := xor.Put(first)
	last, _ := xor.Put([]api.Sample{at(500, 7), at(501, 7)})
	few, _ := xor.Put(first[:119])
	more, _ := xor.Put(append(first, at(120, 7)))
	none, _ := xor.Put(nil)
	one, _ := xor.Put([]api.Sample{at(500, 7)})
	count := map[string]api.Errno{uv(4097): api.ErrLong, uv(1 << 32): api.ErrLong, uv(1<<32 + 2): api.ErrLong, uv(math.MaxUint64): api.ErrLong}
	ref := map[string]api.Errno{uv(0): api.ErrArg, uv(1 << 32): api.ErrArg, uv(1<<32 + 1): api.ErrArg, uv(math.MaxUint64): api.ErrArg}
	size := map[string]api.Errno{uv(65537): api.ErrLong, uv(1 << 32): api.ErrLong, uv(1<<32 + 122): api.ErrLong, uv(high): api.ErrLong, uv(math.MaxUint64): api.ErrLong}
	set := map[string]api.Errno{
		uv(17): api.ErrLong, "\x01\x41": api.ErrLong, "\x01\x01a\x81\x01": api.ErrLong, "\x01\x01a\x00": api.ErrValue, "\x01\x00\x01x": api.ErrName,
		"\x02\x01a\x01x\x01a\x01x": api.ErrOrder, "\x80\x00": api.ErrForm, strings.Repeat("\x80", 10): api.ErrOver,
	}
	return []spot{
		number(uv(2), count),
		number(uv(5), ref),
		{"\x01\x01a\x01x", set},
		number(uv(122), size),
		number("", map[string]api.Errno{uv(1 << 40): api.ErrShort, uv(high): api.ErrShort, uv(math.MaxUint64): api.ErrShort}),
		{counted(string(chunk)), map[string]api.Errno{
			counted(string(few)): api.ErrArg, counted(string(more)): api.ErrArg, counted(string(none)): api.ErrArg, counted(string(last)): api.ErrArg,
			counted(""): api.ErrShort, counted("\x00"): api.ErrShort, counted(string(chunk[:len(chunk)-1])): api.ErrShort, counted(string(chunk) + "\x00"): api.ErrForm, counted("\x00\x00\x00"): api.ErrForm,
		}},
		number("", nil),
		{counted(string(last)), map[string]api.Errno{
			counted(string(one)): api.ErrArg, counted(string(none)): api.ErrArg, counted(string(chunk)): api.ErrArg, counted(string(more)): api.ErrArg,
			counted(string(last[:len(last)-1])): api.ErrShort, counted(string(last) + "\x00"): api.ErrForm,
		}},
		number(vi(3), nil),
		number(strings.Repeat(vi(0), 120), nil),
		number(vi(-1), nil),
		number(uv(6), ref),
		{"\x00", set},
		number(uv(0), size),
	}
}

func TestTakeOfSpots(t *testing.T) {
	all := spots()
	right := func(l []spot) string {
		s := ""
		for _, one := range l {
			s += one.right
		}
		return s
	}
	if err := mustTake(t, body(right(all))); err != api.OK {
		t.Fatalf("the right ones: %d", err)
	}
	for i, one := range all {
		for part, want := range one.wrong {
			ahead := right(all[:i]) + part
			mustSpoil(t, body(ahead), want)
			mustSpoil(t, body(ahead+right(all[i+1:])), want)
			mustSpoil(t, body(ahead+right(all[i+1:])+"\x00"), want) // what is left over comes later
			for _, other := range all[i+1:] {                       // and so does what is wrong further on
				for behind := range other.wrong {
					mustSpoil(t, body(ahead+behind), want)
				}
			}
		}
	}
}

func TestTakeOfMuch(t *testing.T) {
	l := list(ser(math.MaxUint32, of("a", "x"), many(65536)...))
	if err := mustTake(t, body("\x01", joinedText(plainSeries(l[0])))); err != api.OK {
		t.Errorf("%d", err)
	}
	if err := mustTake(t, mustBack(t, wide(4096))); err != api.OK {
		t.Errorf("%d", err)
	}
	over := wide(4097)
	mustSpoil(t, sealed(plainBytes(over)), api.ErrLong)
	mustSpoil(t, sealed(plainBytes(list(ser(1, nil, many(65537)...)))), api.ErrLong)
	mustSpoil(t, body(uv(4096)), api.ErrShort)
	mustSpoil(t, body("\x01\x01\x00", uv(65536)), api.ErrShort)
}

func joinedText(parts []string) string { return string(joined(parts...)) }

func TestTakeOfChunks(t *testing.T) {
	var all []api.Sample
	for i := range 240 {
		all = append(all, at(int64(i), 7))
	}
	seqs := func(n int) string { return strings.Repeat(vi(0), n-1) }
	for _, c := range []struct {
		parts []string
		want  api.Errno
	}{
		{[]string{uv(240), chunked(all[:120]...), chunked(all[120:]...), vi(1), seqs(240)}, api.OK},
		{[]string{uv(240), chunked(all...), vi(1), seqs(240)}, api.ErrArg},
		{[]string{uv(120), chunked(all[:60]...), chunked(all[60:120]...), vi(1), seqs(120)}, api.ErrArg},
		{[]string{uv(121), chunked(all[:121]...), vi(1), seqs(121)}, api.ErrArg},
		{[]string{uv(121), chunked(all[:1]...), chunked(all[1:121]...), vi(1), seqs(121)}, api.ErrArg},
		{[]string{uv(121), chunked(all[:120]...), chunked(all[120:121]...), vi(1), seqs(121)}, api.OK},
		{[]string{uv(120), chunked(all[:120]...), chunked(), vi(1), seqs(120)}, api.ErrForm}, // the empty chunk is read as numbers
		{[]string{uv(1), chunked(), vi(1)}, api.ErrArg},
		{[]string{uv(0), chunked(), vi(1)}, api.ErrForm},
		{[]string{uv(2), chunked(all[:2]...), vi(1)}, api.ErrShort},
		{[]string{uv(2), chunked(all[:2]...), vi(1), vi(1), vi(1)}, api.ErrForm},
		{[]string{uv(120), chunked(all[:120]...), vi(1), seqs(119)}, api.ErrShort},
		{[]string{uv(240), chunked(all[:120]...), vi(1), seqs(120), chunked(all[120:]...), vi(1), seqs(120)}, api.ErrArg}, // all chunks stand ahead of all numbers
	} {
		b := body("\x01\x01\x00", joinedText(c.parts))
		if err := mustTake(t, b); err != c.want {
			t.Errorf("Take of %q: %d, want %d", b, err, c.want)
		}
	}
}

func TestTakeOfWhatIsNotRight(t *testing.T) {
	asked := 0
	for want, lists := range wrong() {
		for _, l := range lists {
			if want != api.ErrArg && want != api.ErrTwice || len(l) > 4096 || len(l[0].Points) > 65536 || l[0].Ref == 0 || slices.ContainsFunc(l[1:], func(s api.Series) bool { return s.Ref == 0 }) {
				continue // these are refused ahead of what is asked here
			}
			if slices.ContainsFunc(l, func(s api.Series) bool { return labels.Right(s.Labels) != api.OK }) {
				continue
			}
			asked++
			mustSpoil(t, sealed(plainBytes(l)), want)
			mustSpoil(t, sealed(append(plainBytes(l), 0)), api.ErrForm) // ahead of Right's errors
		}
	}
	if asked < 15 {
		t.Error("what was asked tells little", asked)
	}
	a := of("a", "x")
	mustSpoil(t, sealed(plainBytes(list(ser(1, a), ser(2, a), ser(2, nil)))), api.ErrArg)
	mustSpoil(t, sealed(plainBytes(list(ser(1, a), ser(2, a)))), api.ErrTwice)
	mustSpoil(t, sealed(plainBytes(list(ser(1, a, pt(5, 7, 0))))), api.ErrArg)
}

func TestTakeOfAnyBody(t *testing.T) {
	d := sample.Draws(74)
	told := map[api.Errno]int{}
	for n := range 6000 {
		told[mustTake(t, sealed(append([]byte("mnb1"), sample.Bytes(n%300)...)))]++
	}
	for range 12000 {
		l := drawn(d, 4)
		if d.Below(3) == 0 {
			l = spoilt(d, l)
		}
		b := plainBytes(l)
		for range d.Below(4) {
			b = turned(d, b)
		}
		told[mustTake(t, sealed(b))]++
	}
	for _, err := range []api.Errno{api.OK, api.ErrShort, api.ErrForm, api.ErrArg, api.ErrLong, api.ErrName, api.ErrValue, api.ErrOrder, api.ErrTwice} {
		if told[err] < 5 {
			t.Error("what was asked tells little", told)
		}
	}
}

// turned is a body in which a byte is another one, lacks, or is there twice.
func turned(d *sample.Draw, b []byte) []byte {
	b = slices.Clone(b)
	if len(b) < 5 {
		return b
	}
	i := 4 + d.Below(len(b)-4)
	switch d.Below(4) {
	case 0:
		return slices.Delete(b, i, i+1)
	case 1:
		return slices.Insert(b, i, b[i])
	case 2:
		b[i] ^= 1 << d.Below(8)
	case 3:
		b[i] = byte(d.Below(4))
	}
	return b
}

func TestTakeOfCutBodies(t *testing.T) {
	d := sample.Draws(75)
	for range 60 {
		b := plainBytes(drawn(d, 5))
		for n := 5; n < len(b); n++ {
			if err := mustTake(t, sealed(b[:n])); err == api.OK {
				t.Fatalf("%q is taken, cut off at %d", b, n)
			}
		}
		mustSpoil(t, sealed(append(b, 0)), api.ErrForm)
	}
	b, _ := block.Put(list(ser(1, nil, steady(121)...)))
	for n := 5; n < len(b)-4; n++ {
		mustSpoil(t, sealed(b[:n]), api.ErrShort)
	}
}
