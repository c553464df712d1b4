package real

import (
	"math"

	"manometer/api"
)

// Do tells what op makes of a and b; of an op that is none, api.NaN.
func Do(op int, a, b uint64) uint64 {
	x, y := number(a), number(b)
	switch op {
	case api.OpAdd:
		return told(x + y)
	case api.OpSub:
		return told(x - y)
	case api.OpMul:
		return told(x * y)
	case api.OpDiv:
		return told(x / y)
	case api.OpMod:
		return told(math.Mod(x, y))
	case api.OpMin:
		return told(number(either(a, b, Order(a, b) < 0)))
	case api.OpMax:
		return told(number(either(a, b, Order(a, b) > 0)))
	}
	return api.NaN
}

// either tells a, if first holds, else b; but what is no number gives way to the other one.
func either(a, b uint64, first bool) uint64 {
	switch {
	case math.IsNaN(number(a)):
		return b
	case math.IsNaN(number(b)) || first:
		return a
	}
	return b
}

// One tells what op makes of v; of an op that is none, api.NaN.
func One(op int, v uint64) uint64 {
	x := number(v)
	switch op {
	case api.OneAbs:
		return told(math.Abs(x))
	case api.OneNeg:
		return told(-x)
	case api.OneFloor:
		return told(math.Floor(x))
	case api.OneCeil:
		return told(math.Ceil(x))
	case api.OneSqrt:
		return told(math.Sqrt(x))
	}
	return api.NaN
}
