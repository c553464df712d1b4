package real_test

import (
	"math"
	"slices"
	"testing"

	"manometer/real"
)

// P4.6

// plainSum is the sum as the chapter says it, word for word.
func plainSum(l []uint64) uint64 {
	var s, c float64
	for _, v := range l {
		x := math.Float64frombits(v)
		t := s + x
		if !(math.Abs(s) < math.Abs(x)) {
			c = c + ((s - t) + x)
		} else {
			c = c + ((x - t) + s)
		}
		if math.IsInf(t, 0) {
			c = 0
		}
		s = t
	}
	if !math.IsInf(s, 0) {
		s = s + c
	}
	if s != s {
		return nan
	}
	return of(s)
}

// The sums were reckoned by another program.
func TestSumOfSome(t *testing.T) {
	minus := math.Copysign(0, -1)
	for _, c := range []struct {
		l    []uint64
		want uint64
	}{
		{nil, 0},
		{[]uint64{}, 0},
		{all(minus), 0},
		{all(minus, minus), 0},
		{all(5), of(5)},
		{all(0.1, 0.1, 0.1, 0.1, 0.1, 0.1, 0.1, 0.1, 0.1, 0.1), 0x3ff0000000000000},
		{all(1, 1e100, 1, -1e100), 0x4000000000000000},
		{all(0.1, 0.2, 0.3), 0x3fe3333333333333},
		{all(1e16, 1, -1e16), of(1)},
		{all(1, 1e16, -1e16), of(1)},
		{all(0x1p-1074, -0x1p-1074), 0},
		{all(3, -3, 1e-20), of(1e-20)},
		{all(1e308, 1e308, -1e308), inf},
		{all(-1e308, -1e308), less},
		{append(all(1, 1e16, 1), inf, of(-1e308)), inf},
		{append(all(1, 1e16, 1), less, of(1e308)), less},
		{[]uint64{inf, less}, nan},
		{[]uint64{inf, less, inf}, nan},
		{append(all(1e308, 1e308), less), nan},
		{[]uint64{stale}, nan},
		{[]uint64{of(1), nan | highest, of(2)}, nan},
		{[]uint64{inf, stale}, nan},
	} {
		same(t, real.Sum(c.l), c.want, "Sum", c.l)
	}
}

// What is rounded away comes to the sum at the end, even if that takes it beyond the greatest number.
func TestSumThatRunsOverAtItsEnd(t *testing.T) {
	l := []uint64{most}
	for range 3 {
		l = append(l, of(0x1p969))
	}
	same(t, real.Sum(l), inf, "Sum", l)
	same(t, real.Sum(l[:2]), most, "Sum", l[:2])
}

func TestSumStepByStep(t *testing.T) {
	v := anyValues(300)
	for i := range v {
		if i%2 == 0 { // numbers that are near one another
			v[i] = of(float64(int32(v[i])) / 7)
		}
	}
	for n := range v {
		same(t, real.Sum(v[:n]), plainSum(v[:n]), "Sum", n)
		same(t, real.Sum(v[n:min(n+3, len(v))]), plainSum(v[n:min(n+3, len(v))]), "Sum", n)
	}
	for _, a := range rising() {
		for _, b := range rising() {
			l := []uint64{a, b, of(0.1), a ^ highest}
			same(t, real.Sum(l), plainSum(l), "Sum", l)
		}
	}
}

func TestMeanIsTheSumByHowMany(t *testing.T) {
	for _, c := range []struct {
		l    []uint64
		want uint64
	}{
		{nil, nan},
		{[]uint64{}, nan},
		{all(5), of(5)},
		{all(1, 2), of(1.5)},
		{all(1, 1e100, 1, -1e100), of(0.5)},
		{all(1, 0, 0), of(1.0 / 3)},
		{all(math.Copysign(0, -1)), 0},
		{all(-1e308, -1e308), less},
		{all(1e308, 1e308), inf},
		{[]uint64{inf, less}, nan},
		{[]uint64{stale}, nan},
		{[]uint64{tiny, 0, 0}, 0},
		{[]uint64{tiny | highest, 0, 0}, highest},
	} {
		same(t, real.Mean(c.l), c.want, "Mean", c.l)
	}
	many := slices.Repeat(all(1, 2, 3, 4), 1000)
	same(t, real.Mean(many), of(2.5), "Mean of many")
}

// P4.7 and P4.9

// shuffled are the values of l in another order, the same one each time.
func shuffled(l []uint64) []uint64 {
	s := slices.Clone(l)
	for i, v := range anyValues(len(s)) {
		k := int(v % uint64(i+1))
		s[i], s[k] = s[k], s[i]
	}
	return s
}

func TestSortIsByOrder(t *testing.T) {
	l := rising()
	twice := make([]uint64, 0, 2*len(l))
	for _, v := range l {
		twice = append(twice, v, v)
	}
	for _, want := range [][]uint64{nil, {}, {5}, {5, 5}, l[:2], l, twice} {
		turned := slices.Clone(want)
		slices.Reverse(turned)
		for _, from := range [][]uint64{want, turned, shuffled(want)} {
			asked := slices.Clone(from)
			if got := real.Sort(asked); !slices.Equal(got, want) {
				t.Errorf("Sort of %d: %x, want %x", len(from), got, want)
			}
			if !slices.Equal(asked, from) {
				t.Errorf("Sort changed its %d values", len(from))
			}
		}
	}
}

func TestSortHasAll(t *testing.T) {
	l := anyValues(5000)
	s := real.Sort(l)
	many := map[uint64]int{}
	for i, v := range s {
		many[v]++
		if i > 0 && real.Order(s[i-1], v) == 1 {
			t.Fatalf("%x ahead of %x", s[i-1], v)
		}
	}
	for _, v := range l {
		many[v]--
	}
	for v, n := range many {
		if n != 0 {
			t.Errorf("%x: %d too many", v, n)
		}
	}
}

// R4

func TestSortIsNewMemory(t *testing.T) {
	l := all(1, 2, 3)
	s := real.Sort(l)
	s[0] = 0
	_ = append(s[:1], 7)
	if !slices.Equal(l, all(1, 2, 3)) {
		t.Errorf("%x", l)
	}
	if again := real.Sort(l); !slices.Equal(again, l) {
		t.Errorf("%x", again)
	}
}

func TestNothingHandedInIsChanged(t *testing.T) {
	l := all(3, 1, 2)
	real.Sum(l)
	real.Mean(l)
	real.Quantile(of(0.5), l)
	if !slices.Equal(l, all(3, 1, 2)) {
		t.Errorf("%x", l)
	}
}

// P4.7

func TestQuantileOfSome(t *testing.T) {
	ten := all(10, 9, 8, 7, 6, 5, 4, 3, 2, 1, 0)
	for _, c := range []struct {
		q    float64
		l    []uint64
		want float64
	}{
		{0, ten, 0}, {1, ten, 10}, {0.5, ten, 5}, {0.1, ten, 1}, {0.25, ten, 2.5}, {0.75, ten, 7.5}, {0.95, ten, 9.5},
		{0, all(7), 7}, {0.3, all(7), 7}, {1, all(7), 7},
		{0.5, all(3, 1, 2, 4), 2.5}, {0.5, all(3, 1, 2), 2}, {0.5, all(-1, -3), -2},
		{0.5, all(4, 4, 4, 1), 4}, {math.Copysign(0, -1), ten, 0}, {0x1p-1074, ten, 0xap-1074},
	} {
		same(t, real.Quantile(of(c.q), c.l), of(c.want), "Quantile", of(c.q), c.l)
	}
}

func TestQuantileAtItsEdges(t *testing.T) {
	one, half := of(1), of(0.5)
	few := all(3, 1, 2)
	for _, c := range []struct {
		q    uint64
		l    []uint64
		want uint64
	}{
		{half, nil, nan}, {half, []uint64{}, nan}, {of(-1), nil, nan}, {of(2), nil, nan}, {inf, nil, nan}, {nan, nil, nan},
		{nan, few, nan}, {stale, few, nan}, {nan | highest, few, nan},
		{of(-1), few, less}, {less, few, less}, {tiny | highest, few, less}, {of(-1), []uint64{nan}, less},
		{of(2), few, inf}, {inf, few, inf}, {0x3ff0000000000001, few, inf}, {of(2), []uint64{nan}, inf},
		{0x3fefffffffffffff, all(1, 1), one}, {one, few, of(3)}, {0, few, one}, {highest, few, one},
		{half, []uint64{stale}, nan}, {0, []uint64{of(1), nan}, nan}, {0, []uint64{of(1), of(2), nan}, one}, {0, []uint64{of(1), of(2), nan | highest}, nan},
		{0, []uint64{of(1), inf}, nan}, {0, []uint64{of(1), of(2), inf}, one}, {0, []uint64{inf}, nan}, {one, []uint64{of(1), inf}, nan}, {half, []uint64{inf, of(1), inf}, nan}, {of(0.25), []uint64{inf, of(1), inf}, inf},
		{half, []uint64{less, inf}, nan},
		{0, []uint64{0, highest}, 0}, {0, []uint64{highest}, highest}, {highest, []uint64{highest}, highest},
		{0, []uint64{highest, highest}, highest}, {highest, []uint64{highest, highest}, highest}, {highest, []uint64{0, 0}, 0},
		{half, []uint64{tiny, tiny}, 0}, {half, []uint64{most, most}, most},
	} {
		same(t, real.Quantile(c.q, c.l), c.want, "Quantile", c.q, c.l)
	}
}

// The values were reckoned by another program, each product rounded by itself.
func TestQuantileRoundsEachProduct(t *testing.T) {
	three := all(-2.0788351477863802, -6.900554583951795, -8.669698086408202)
	seven := all(-1.9681797102985037, 8.359100861754378, 6.009047029916172, 5.303252050108769, -5.561436486193648, 0.7336001634962699, -4.466347131170996)
	ten := all(-6.546709414292621, -7.876334151369397, -5.71199134842167, 8.54951262856121, 6.578400975568389, 6.133046934046469, 6.008956770859324, -6.131287639615199, -3.803000854009289, 2.5395120482626012)
	parts := all(0.1, 0.25, 1.0/3, 0.5, 0.9, 0.99)
	for _, c := range []struct {
		l    []uint64
		want []uint64
	}{
		{three, []uint64{0xc020a1b9a1d4a43d, 0xc01f23f828734e43, 0xc01df6091955517a, 0xc01b9a2afb1957e8, 0xc008586e3ffa4060, 0xc00166f3b6fa5a81}},
		{seven, []uint64{0xc0139e168b3d7bc2, 0xc009bcf49ab561f9, 0xbfff7daa02062010, 0x3fe779a70cd1d0c0, 0x401bcbd8a118ffb8, 0x40206faa7e2835f6}},
		{ten, []uint64{0xc01ab7fbe84be32f, 0xc0181b1943e80e12, 0xc016d91442920628, 0xbfe4374009b8b4b8, 0x401b1a1fdacab5da, 0x4020be858a4145be}},
	} {
		for i, q := range parts {
			same(t, real.Quantile(q, c.l), c.want[i], "Quantile", q, c.l)
			same(t, real.Quantile(q, shuffled(c.l)), c.want[i], "Quantile", q, c.l)
		}
	}
	for _, c := range []struct {
		q, a, b float64
		want    uint64
	}{
		{0.59, -9.4, 5.5, 0xbfe37ced916872b8},
		{0.08, -1.1, 17, 0x3fd645a1cac08310},
		{0.88, -25.5, 3.5, 0x3f947ae147ae1480},
	} {
		same(t, real.Quantile(of(c.q), all(c.b, c.a)), c.want, "Quantile", c.q, c.a, c.b)
	}
}

func TestQuantileOfMany(t *testing.T) {
	n := 1 << 16
	l := make([]uint64, n)
	for i := range l {
		l[i] = of(float64(n - 1 - i))
	}
	for _, c := range []struct{ q, want float64 }{{0, 0}, {0.5, 32767.5}, {1, 65535}, {0x1p-16, 0xffffp-16}} {
		same(t, real.Quantile(of(c.q), l), of(c.want), "Quantile of many", c.q)
	}
}
