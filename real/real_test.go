package real_test

import (
	"cmp"
	"encoding/binary"
	"math"
	"slices"
	"testing"

	"manometer/api"
	"manometer/real"
	"manometer/sample"
)

const (
	highest = uint64(1) << 63
	nan     = uint64(0x7ff8000000000001)
	stale   = uint64(0x7ff0000000000002)
	tiny    = uint64(1)
)

var (
	inf  = of(math.Inf(1))
	less = of(math.Inf(-1))
	most = of(math.MaxFloat64)
)

func of(x float64) uint64 { return math.Float64bits(x) }

// all are the values of a list of numbers.
func all(l ...float64) []uint64 {
	var v []uint64
	for _, x := range l {
		v = append(v, of(x))
	}
	return v
}

// rising are values around all that the chapter tells apart, each ahead of the next one.
func rising() []uint64 {
	up := []uint64{
		0, 1, 2, 0x000fffffffffffff, 0x0010000000000000, 0x0010000000000001,
		of(1e-20), 0x3ca0000000000000, of(0.1), of(0.3), 0x3fdfffffffffffff, of(0.5), 0x3fe0000000000001, 0x3fefffffffffffff, of(1), 0x3ff0000000000001,
		of(1.5), of(2), of(2.5), of(3), of(7), of(1e10 + 0.5), of(1<<52 - 0.5), of(1<<53 - 1), of(1 << 53), of(1<<53 + 2),
		0x43dfffffffffffff, of(1 << 63), 0x43e0000000000001, of(1e100), 0x7feffffffffffffe, 0x7fefffffffffffff,
		0x7ff0000000000000, 0x7ff0000000000001, stale, 0x7ff0000000000003, 0x7ff8000000000000, nan, 0x7ff8000000000002, 0x7fffffffffffffff,
	}
	var l []uint64
	for _, v := range slices.Backward(up) {
		l = append(l, v|highest)
	}
	return append(l, up...)
}

// finite are the numbers of rising that are neither infinite nor none.
func finite() []uint64 {
	return slices.DeleteFunc(rising(), func(v uint64) bool { return v&^highest >= inf })
}

// numbers are the values of rising that are numbers, infinities among them.
func numbers() []uint64 {
	return slices.DeleteFunc(rising(), func(v uint64) bool { return v&^highest > inf })
}

// none are values that are no number.
func none() []uint64 {
	return []uint64{nan, stale, nan | highest, stale | highest, 0x7ff0000000000001, 0xfff0000000000001, 0x7ff8000000000000, 0xfff8000000000000, 0x7fffffffffffffff, 0xffffffffffffffff}
}

// anyValues are n values of bits that look like any.
func anyValues(n int) []uint64 {
	l := make([]uint64, n)
	b := sample.Bytes(8 * n)
	for i := range l {
		l[i] = binary.LittleEndian.Uint64(b[8*i:])
	}
	return l
}

// same asks that what was told is what was wanted.
func same(t *testing.T, got, want uint64, call string, asked ...any) {
	t.Helper()
	if got != want {
		t.Errorf("%s %x: %016x, want %016x", call, asked, got, want)
	}
}

func TestNumbersOfTheLayer(t *testing.T) {
	if uint64(api.Stale) != stale || uint64(api.NaN) != nan {
		t.Errorf("Stale %x, NaN %x", uint64(api.Stale), uint64(api.NaN))
	}
	for _, l := range [][]int{
		{api.FkNan, api.FkStale, api.FkInf, api.FkZero, api.FkTiny, api.FkPlain},
		{api.OpAdd, api.OpSub, api.OpMul, api.OpDiv, api.OpMod, api.OpMin, api.OpMax},
		{api.CmpEq, api.CmpNe, api.CmpGt, api.CmpLt, api.CmpGe, api.CmpLe},
		{api.OneAbs, api.OneNeg, api.OneFloor, api.OneCeil, api.OneSqrt},
	} {
		for want, n := range l {
			if n != want {
				t.Error(l)
			}
		}
	}
}

// P4.1

func TestKinds(t *testing.T) {
	for v, want := range map[uint64]int{
		0:                  api.FkZero,
		1:                  api.FkTiny,
		0x0008000000000000: api.FkTiny,
		0x000fffffffffffff: api.FkTiny,
		0x0010000000000000: api.FkPlain,
		of(1):              api.FkPlain,
		0x7fefffffffffffff: api.FkPlain,
		0x7ff0000000000000: api.FkInf,
		0x7ff0000000000001: api.FkNan,
		0x7ff0000000000003: api.FkNan,
		0x7ff8000000000000: api.FkNan,
		nan:                api.FkNan,
		0x7fffffffffffffff: api.FkNan,
	} {
		if k := real.Kind(v); k != want {
			t.Errorf("Kind %x: %d, want %d", v, k, want)
		}
		if k := real.Kind(v | highest); k != want {
			t.Errorf("Kind %x: %d, want %d", v|highest, k, want)
		}
	}
	if real.Kind(stale) != api.FkStale || real.Kind(stale|highest) != api.FkNan {
		t.Error("the mark of an end", real.Kind(stale), real.Kind(stale|highest))
	}
}

func TestKindsOfAny(t *testing.T) {
	for _, v := range append(anyValues(1000), rising()...) {
		x := math.Float64frombits(v)
		want := api.FkPlain
		switch {
		case v == stale:
			want = api.FkStale
		case x != x:
			want = api.FkNan
		case x-x != 0:
			want = api.FkInf
		case x == 0:
			want = api.FkZero
		case math.Abs(x) < 0x1p-1022:
			want = api.FkTiny
		}
		if real.Kind(v) != want {
			t.Errorf("Kind %x: %d, want %d", v, real.Kind(v), want)
		}
	}
}

func TestNegIsTheHighestBit(t *testing.T) {
	l := rising()
	for i, v := range l {
		if real.Neg(v) != (i < len(l)/2) {
			t.Errorf("Neg %x: %v", v, real.Neg(v))
		}
	}
}

// P4.2 and P4.9

func TestOrderIsTotal(t *testing.T) {
	l := rising()
	for i, a := range l {
		for k, b := range l {
			if got := real.Order(a, b); got != cmp.Compare(i, k) {
				t.Errorf("Order %x %x: %d", a, b, got)
			}
		}
	}
}

func TestOrderIsThatOfNumbers(t *testing.T) {
	l := anyValues(200)
	for _, a := range l {
		for _, b := range l {
			x, y := math.Float64frombits(a), math.Float64frombits(b)
			if x < y && real.Order(a, b) != -1 || x > y && real.Order(a, b) != 1 {
				t.Errorf("Order %x %x: %d", a, b, real.Order(a, b))
			}
		}
	}
}

// P4.3

// howHeld are, of each way to hold two numbers, whether it holds of one below, the same, and above.
var howHeld = [6][3]bool{
	api.CmpEq: {false, true, false},
	api.CmpNe: {true, false, true},
	api.CmpGt: {false, false, true},
	api.CmpLt: {true, false, false},
	api.CmpGe: {false, true, true},
	api.CmpLe: {true, true, false},
}

func TestHoldsAsNumbers(t *testing.T) {
	l := numbers()
	for i, a := range l {
		for k, b := range l {
			stand := 1 + cmp.Compare(i, k)
			if a&^highest == 0 && b&^highest == 0 {
				stand = 1 // noughts of both signs are the same number
			}
			for how, want := range howHeld {
				if real.Holds(how, a, b) != want[stand] {
					t.Errorf("Holds %d %x %x: %v", how, a, b, !want[stand])
				}
			}
		}
	}
}

func TestWhatIsNoNumberIsOnlyUnlike(t *testing.T) {
	for _, a := range rising() {
		for _, none := range none() {
			for how := range howHeld {
				want := how == api.CmpNe
				if real.Holds(how, a, none) != want || real.Holds(how, none, a) != want {
					t.Errorf("Holds %d %x %x", how, a, none)
				}
			}
		}
	}
}

func TestNothingHoldsOfNoWay(t *testing.T) {
	for _, how := range []int{-1, 6, 7, 100, math.MaxInt, math.MinInt} {
		for _, v := range rising() {
			if real.Holds(how, v, v) || real.Holds(how, v, of(1)) || real.Holds(how, of(1), v) {
				t.Errorf("Holds %d %x", how, v)
			}
		}
	}
}

// P4.8 and P4.12

func TestOfIsTheNearest(t *testing.T) {
	for n, want := range map[int64]float64{
		0: 0, 1: 1, -1: -1, 300: 300,
		1<<53 - 1: 0x1p53 - 1, 1 << 53: 0x1p53, 1<<53 + 1: 0x1p53, 1<<53 + 2: 0x1p53 + 2, 1<<53 + 3: 0x1p53 + 4,
		-1<<53 - 1: -0x1p53, -1<<53 - 3: -0x1p53 - 4,
		1<<54 + 2: 0x1p54, 1<<54 + 3: 0x1p54 + 4, 1<<54 + 6: 0x1p54 + 8,
		math.MaxInt64: 0x1p63, math.MaxInt64 - 511: 0x1p63, math.MaxInt64 - 512: 0x1p63 - 1024, math.MinInt64: -0x1p63, math.MinInt64 + 1: -0x1p63,
	} {
		same(t, real.Of(n), of(want), "Of", n)
	}
}

func TestWholeNumbers(t *testing.T) {
	for v, want := range map[uint64]int64{
		0: 0, highest: 0, of(1): 1, of(-1): -1, of(1e10): 1e10,
		of(0x1p53): 1 << 53, of(0x1p53 + 2): 1<<53 + 2, of(-0x1p53 - 2): -1<<53 - 2, of(0x1p52 + 1): 1<<52 + 1,
		of(0x1p63 - 1024): math.MaxInt64 - 1023, of(-0x1p63): math.MinInt64, of(-0x1p63 + 1024): math.MinInt64 + 1024,
	} {
		if n, is := real.Whole(v); n != want || !is {
			t.Errorf("Whole %x: %d %v, want %d", v, n, is, want)
		}
	}
}

func TestWhatIsNotWhole(t *testing.T) {
	l := all(0.5, -0.5, 1.5, -1.5, 1e-300, 0x1p52-0.5, -0x1p52+0.5, 0x1p63, -0x1p63-2048, 1e300, -1e300)
	for _, v := range append(l, 1, highest|1, 0x3fefffffffffffff, 0x3ff0000000000001, most, inf, less, nan, nan|highest, stale, stale|highest) {
		if n, is := real.Whole(v); n != 0 || is {
			t.Errorf("Whole %x: %d %v", v, n, is)
		}
	}
}

func TestWholeNumbersComeBack(t *testing.T) {
	ask := func(n int64) {
		if back, is := real.Whole(real.Of(n)); back != n || !is {
			t.Errorf("%d came back as %d %v", n, back, is)
		}
	}
	for n := range int64(1000) {
		for _, from := range []int64{0, 1<<31 - 500, 1<<52 - 500, 1<<53 - 999} {
			ask(from + n)
			ask(-from - n)
		}
	}
	for _, v := range anyValues(1000) {
		ask(int64(v >> 11))
		ask(-int64(v >> 11))
	}
}
