package real_test

import (
	"math"
	"math/big"
	"testing"

	"manometer/api"
	"manometer/real"
)

func ratio(v uint64) *big.Rat { return new(big.Rat).SetFloat64(math.Float64frombits(v)) }

// nearest is the value nearest to z; if z is nought, that of the sign of neg.
func nearest(z *big.Rat, neg bool) uint64 {
	if z.Sign() == 0 {
		if neg {
			return highest
		}
		return 0
	}
	x, _ := z.Float64()
	return of(x)
}

// exact reckons with the numbers themselves, and rounds once.
func exact(op int, a, b uint64) uint64 {
	x, y, z := ratio(a), ratio(b), new(big.Rat)
	negA, negB := a&highest != 0, b&highest != 0
	switch op {
	case api.OpAdd:
		return nearest(z.Add(x, y), negA && negB)
	case api.OpSub:
		return nearest(z.Sub(x, y), negA && !negB)
	case api.OpMul:
		return nearest(z.Mul(x, y), negA != negB)
	case api.OpDiv:
		return nearest(z.Quo(x, y), negA != negB)
	}
	q := z.Quo(x, y)
	times := new(big.Rat).SetInt(new(big.Int).Quo(q.Num(), q.Denom()))
	return nearest(z.Sub(x, times.Mul(times, y)), negA)
}

// P4.4

func TestDoIsExactButForRounding(t *testing.T) {
	l := finite()
	for _, v := range anyValues(20) {
		if v&^highest < inf {
			l = append(l, v)
		}
	}
	for _, a := range l {
		for _, b := range l {
			for op := api.OpAdd; op <= api.OpMod; op++ {
				if b&^highest != 0 || op < api.OpDiv {
					same(t, real.Do(op, a, b), exact(op, a, b), "Do", op, a, b)
				}
			}
		}
	}
}

func TestDoAtItsEdges(t *testing.T) {
	for _, c := range []struct {
		op         int
		a, b, want uint64
	}{
		{api.OpAdd, inf, less, nan}, {api.OpAdd, inf, inf, inf}, {api.OpAdd, less, less, less}, {api.OpAdd, inf, of(-1), inf}, {api.OpAdd, most, most, inf},
		{api.OpSub, inf, inf, nan}, {api.OpSub, less, less, nan}, {api.OpSub, inf, less, inf}, {api.OpSub, of(1), inf, less}, {api.OpSub, of(1), less, inf},
		{api.OpMul, inf, 0, nan}, {api.OpMul, less, highest, nan}, {api.OpMul, inf, of(-2), less}, {api.OpMul, less, less, inf}, {api.OpMul, most, of(2), inf},
		{api.OpDiv, of(1), 0, inf}, {api.OpDiv, of(1), highest, less}, {api.OpDiv, of(-1), 0, less}, {api.OpDiv, of(-1), highest, inf},
		{api.OpDiv, 0, 0, nan}, {api.OpDiv, highest, 0, nan}, {api.OpDiv, inf, inf, nan}, {api.OpDiv, inf, less, nan}, {api.OpDiv, inf, 0, inf},
		{api.OpDiv, inf, of(-3), less}, {api.OpDiv, of(3), inf, 0}, {api.OpDiv, of(-3), inf, highest}, {api.OpDiv, of(3), less, highest},
		{api.OpMod, inf, of(2), nan}, {api.OpMod, less, of(2), nan}, {api.OpMod, inf, inf, nan}, {api.OpMod, of(7), 0, nan}, {api.OpMod, of(7), highest, nan}, {api.OpMod, 0, 0, nan}, {api.OpMod, inf, 0, nan},
		{api.OpMod, of(7), inf, of(7)}, {api.OpMod, of(-7), inf, of(-7)}, {api.OpMod, of(-7), less, of(-7)}, {api.OpMod, of(7), less, of(7)}, {api.OpMod, 0, inf, 0}, {api.OpMod, highest, inf, highest},
	} {
		same(t, real.Do(c.op, c.a, c.b), c.want, "Do", c.op, c.a, c.b)
	}
}

// What is left was reckoned by another program.
func TestWhatIsLeft(t *testing.T) {
	for _, c := range []struct {
		a, b float64
		want uint64
	}{
		{7, 2, 0x3ff0000000000000},
		{-7, 2, 0xbff0000000000000},
		{7, -2, 0x3ff0000000000000},
		{-7, -2, 0xbff0000000000000},
		{6, 2, 0x0000000000000000},
		{-6, 2, 0x8000000000000000},
		{5.5, 0.1, 0x3fb9999999999984},
		{1, 0.1, 0x3fb9999999999996},
		{1e+308, 3.7, 0x40048e34578b0944},
		{-1e+308, 5e-324, 0x8000000000000000},
		{1e+300, 7e-310, 0x00000d8205f9c56e},
		{5e-324, 1, 0x0000000000000001},
		{-5e-324, 2.2250738585072014e-308, 0x8000000000000001},
		{1.7976931348623157e+308, 2.225073858507201e-308, 0x0000000000020000},
		{3, 1.7976931348623157e+308, 0x4008000000000000},
	} {
		same(t, real.Do(api.OpMod, of(c.a), of(c.b)), c.want, "Do OpMod", c.a, c.b)
	}
}

func TestWhatIsNoNumberIsToldAsOne(t *testing.T) {
	for _, no := range none() {
		for _, v := range rising() {
			for op := api.OpAdd; op <= api.OpMod; op++ {
				same(t, real.Do(op, v, no), nan, "Do", op, v, no)
				same(t, real.Do(op, no, v), nan, "Do", op, no, v)
			}
		}
		for op := api.OneAbs; op <= api.OneSqrt; op++ {
			same(t, real.One(op, no), nan, "One", op, no)
		}
	}
}

func TestNoSuchOp(t *testing.T) {
	for _, op := range []int{-1, math.MinInt, 7, 8, 100, math.MaxInt} {
		for _, v := range rising() {
			same(t, real.Do(op, v, v), nan, "Do", op, v, v)
			same(t, real.Do(op, of(1), of(2)), nan, "Do", op)
			same(t, real.One(op, v), nan, "One", op, v)
		}
	}
	same(t, real.One(5, of(1)), nan, "One", 5)
	same(t, real.One(6, of(1)), nan, "One", 6)
}

// P4.4 and P4.11

func TestTheLesserAndTheGreater(t *testing.T) {
	l := numbers()
	for i, a := range l {
		for _, b := range l[i:] {
			same(t, real.Do(api.OpMin, a, b), a, "Do OpMin", a, b)
			same(t, real.Do(api.OpMin, b, a), a, "Do OpMin", b, a)
			same(t, real.Do(api.OpMax, a, b), b, "Do OpMax", a, b)
			same(t, real.Do(api.OpMax, b, a), b, "Do OpMax", b, a)
		}
	}
}

func TestWhatIsNoNumberGivesWay(t *testing.T) {
	for _, no := range none() {
		for _, op := range []int{api.OpMin, api.OpMax} {
			for _, v := range numbers() {
				same(t, real.Do(op, no, v), v, "Do", op, no, v)
				same(t, real.Do(op, v, no), v, "Do", op, v, no)
			}
			for _, other := range none() {
				same(t, real.Do(op, no, other), nan, "Do", op, no, other)
			}
		}
	}
}

// P4.5

func TestOneOfNumbers(t *testing.T) {
	for _, v := range numbers() {
		same(t, real.One(api.OneAbs, v), v&^highest, "One OneAbs", v)
		same(t, real.One(api.OneNeg, v), v^highest, "One OneNeg", v)
	}
}

func TestWholeOnesBelowAndAbove(t *testing.T) {
	for _, c := range []struct{ v, floor, ceil float64 }{
		{1.5, 1, 2}, {-1.5, -2, -1}, {2, 2, 2}, {-2, -2, -2},
		{0.5, 0, 1}, {-0.5, -1, math.Copysign(0, -1)}, {0.999, 0, 1}, {-0.999, -1, math.Copysign(0, -1)},
		{0x1p-1074, 0, 1}, {-0x1p-1074, -1, math.Copysign(0, -1)},
		{0x1p52 - 0.5, 0x1p52 - 1, 0x1p52}, {-0x1p52 + 0.5, -0x1p52, -0x1p52 + 1}, {0x1p53, 0x1p53, 0x1p53}, {1e300, 1e300, 1e300},
		{0, 0, 0}, {math.Copysign(0, -1), math.Copysign(0, -1), math.Copysign(0, -1)},
		{math.Inf(1), math.Inf(1), math.Inf(1)}, {math.Inf(-1), math.Inf(-1), math.Inf(-1)},
	} {
		same(t, real.One(api.OneFloor, of(c.v)), of(c.floor), "One OneFloor", c.v)
		same(t, real.One(api.OneCeil, of(c.v)), of(c.ceil), "One OneCeil", c.v)
	}
}

func TestWholeOnesAreTheNearest(t *testing.T) {
	one := new(big.Int).SetInt64(1)
	for _, v := range finite() {
		x := ratio(v)
		below := new(big.Int).Div(x.Num(), x.Denom())
		above := below
		if !x.IsInt() {
			above = new(big.Int).Add(below, one)
		}
		neg := v&highest != 0
		same(t, real.One(api.OneFloor, v), nearest(new(big.Rat).SetInt(below), neg), "One OneFloor", v)
		same(t, real.One(api.OneCeil, v), nearest(new(big.Rat).SetInt(above), neg), "One OneCeil", v)
	}
}

func TestRoots(t *testing.T) {
	for _, v := range finite() {
		want := nan
		if v&^highest == 0 {
			want = v
		} else if v&highest == 0 {
			x, _ := new(big.Float).SetPrec(53).Sqrt(big.NewFloat(math.Float64frombits(v))).Float64()
			want = of(x)
		}
		same(t, real.One(api.OneSqrt, v), want, "One OneSqrt", v)
	}
	same(t, real.One(api.OneSqrt, of(2)), 0x3ff6a09e667f3bcd, "the root of two")
	same(t, real.One(api.OneSqrt, inf), inf, "One OneSqrt", inf)
	same(t, real.One(api.OneSqrt, less), nan, "One OneSqrt", less)
}

// P4.10

func TestWhichIsFirstDoesNotCount(t *testing.T) {
	for _, a := range rising() {
		for _, b := range rising() {
			for _, op := range []int{api.OpAdd, api.OpMul} {
				same(t, real.Do(op, a, b), real.Do(op, b, a), "Do", op, a, b)
			}
			same(t, real.Do(api.OpSub, a, b), real.Do(api.OpAdd, a, real.One(api.OneNeg, b)), "Do OpSub", a, b)
		}
	}
}
