package block_test

import (
	"math"
	"strconv"
	"strings"
	"testing"

	"manometer/api"
	"manometer/block"
	"manometer/sample"
)

// P15.1

func TestRightOnes(t *testing.T) {
	a, b, c := of("a", "x"), of("b", "x"), of("a", "x", "b", "x")
	for _, l := range [][]api.Series{
		nil,
		{},
		{ser(1, a)},
		{ser(1, nil)},
		{ser(1, api.Labels{})},
		{{Ref: 1, Labels: a, Points: []api.Point{}}},
		{ser(math.MaxUint32, a, pt(5, 7, 1))},
		{ser(1, b, pt(5, 7, 1)), ser(2, a, pt(5, 7, 1), pt(6, 0, 9)), ser(3, c)},
		{ser(7, c), ser(70, nil, pt(-5, 0, high)), ser(1<<31, a), ser(math.MaxUint32, b, pt(0, 0, 1))},
		{ser(1, a, pt(math.MinInt64, 0, 1), pt(math.MaxInt64, math.MaxUint64, math.MaxUint64))},
		{ser(1, of("a", "xb")), ser(2, of("ax", "b")), ser(3, of("a", "x", "b", "")[:1])},
		wide(4096),
	} {
		mustBack(t, l)
	}
}

// many is n points, two ticks from one another.
func many(n int) []api.Point {
	l := make([]api.Point, n)
	for i := range l {
		l[i] = pt(int64(2*i), uint64(i), uint64(n-i))
	}
	return l
}

// longSet is n right labels.
func longSet(n int) api.Labels {
	var l api.Labels
	for i := range n {
		l = append(l, api.Label{Name: "n" + strconv.Itoa(100+i), Value: "x"})
	}
	return l
}

// wrong are lists that are not right, and why.
func wrong() map[api.Errno][][]api.Series {
	a, b := of("a", "x"), of("b", "x")
	return map[api.Errno][][]api.Series{
		api.ErrLong: {
			wide(4097),
			append(list(ser(0, a)), wide(4096)...),
			make([]api.Series, 4097),
			{ser(1, longSet(17))},
			{ser(1, longSet(17), pt(0, 0, 0))},
			{ser(1, a), ser(2, longSet(17)), ser(2, a)},
		},
		api.ErrArg: {
			{ser(0, a)},
			{ser(0, of("a", ""))},
			{ser(1, a), ser(1, b)},
			{ser(2, a), ser(1, b)},
			{ser(2, a), ser(0, b)},
			{ser(1, a), ser(1, a)},
			{ser(2, a), ser(1, of("1", "x"))},
			{ser(1, a), ser(2, b), ser(3, longSet(1)), ser(3, longSet(2))},
			{ser(1, a), ser(2, a), ser(2, b)},
			{ser(1, a, pt(0, 0, 0))},
			{ser(1, a, pt(5, 0, 1), pt(5, 0, 1))},
			{ser(1, a, pt(5, 0, 1), pt(4, 0, 1))},
			{ser(1, a, many(65537)...)},
			{ser(1, a, pt(5, 0, 1), pt(6, 0, 0))},
			{ser(1, a, pt(0, 0, 0)), ser(2, of("a", ""))},
			{ser(1, a), ser(2, a, pt(0, 0, 0))},
		},
		api.ErrName:  {{ser(1, of("", "x"))}, {ser(1, of("1", "x"))}, {ser(1, of(strings.Repeat("n", 65), "x"))}, {ser(1, of("", ""))}, {ser(1, of("", "x"), pt(0, 0, 0))}},
		api.ErrValue: {{ser(1, of("a", ""))}, {ser(1, of("a", "\xff"))}, {ser(1, of("a", strings.Repeat("v", 129)))}, {ser(1, a), ser(2, of("a", ""), pt(0, 0, 0)), ser(1, a)}},
		api.ErrOrder: {{ser(1, of("b", "x", "a", "x"))}, {ser(1, of("a", "x", "a", "y"))}, {ser(1, a), ser(2, a), ser(3, of("a", "x", "a", "x"))}},
		api.ErrTwice: {
			{ser(1, a), ser(2, a)},
			{ser(1, nil), ser(2, api.Labels{})},
			{ser(1, a), ser(2, b), ser(3, a)},
			{ser(1, b, pt(5, 0, 1)), ser(2, nil), ser(9, a), ser(10, b, pt(5, 0, 1))},
			append(wide(4095), ser(math.MaxUint32, of("a", "x", "n", "0"))),
			append(wide(4095), ser(math.MaxUint32, of("a", "x", "n", "4094"))),
		},
	}
}

func TestWrongOnes(t *testing.T) {
	for want, lists := range wrong() {
		for _, l := range lists {
			mustRefuse(t, l, want)
		}
	}
}

func TestFullPoints(t *testing.T) {
	mustBack(t, list(ser(1, of("a", "x"), many(65536)...), ser(2, of("b", "x"), many(3)...)))
}

func TestRightOfDrawn(t *testing.T) {
	d := sample.Draws(71)
	told := map[api.Errno]int{}
	for range 4000 {
		l := drawn(d, 6)
		for range d.Below(3) {
			l = spoilt(d, l)
		}
		want := plainRight(l)
		told[want]++
		if want == api.OK {
			mustBack(t, l)
		} else {
			mustRefuse(t, l, want)
		}
	}
	for _, err := range []api.Errno{api.OK, api.ErrArg, api.ErrTwice, api.ErrName, api.ErrValue, api.ErrOrder} {
		if told[err] < 50 {
			t.Error("what was asked tells little", told)
		}
	}
}

// spoilt is l with something else in one of its series, most often something wrong.
func spoilt(d *sample.Draw, l []api.Series) []api.Series {
	l = clone(l)
	if len(l) == 0 {
		return append(l, api.Series{})
	}
	one, other := &l[d.Below(len(l))], l[d.Below(len(l))]
	switch d.Below(7) {
	case 0:
		one.Ref = other.Ref
	case 1:
		one.Labels = other.Labels
	case 2:
		one.Labels = append(one.Labels, one.Labels...)
	case 3:
		one.Labels = append(one.Labels, api.Label{Name: "zz"})
	case 4:
		one.Labels = append(of("9", "x"), one.Labels...)
	case 5:
		one.Points = append(one.Points, other.Points...)
	case 6:
		if len(one.Points) > 0 {
			one.Points[d.Below(len(one.Points))].Seq = uint64(d.Below(2))
		}
	}
	return l
}

func TestSame(t *testing.T) {
	a, b := of("a", "x"), of("b", "x")
	all := [][]api.Series{
		nil,
		{{}},
		{{}, {}},
		{ser(1, nil)},
		{ser(1, a)},
		{ser(2, a)},
		{ser(1, b)},
		{ser(1, of("a", "y"))},
		{ser(1, of("a", "x", "b", "x"))},
		{ser(1, of("b", "x", "a", "x"))},
		{ser(1, a, pt(5, 7, 1))},
		{ser(1, a, pt(6, 7, 1))},
		{ser(1, a, pt(5, 8, 1))},
		{ser(1, a, pt(5, 7, 2))},
		{ser(1, a, pt(5, 7, 0))},
		{ser(1, a, pt(5, 0, 1))},
		{ser(1, a, pt(5, high, 1))},
		{ser(1, a, pt(5, 7, 1), pt(6, 7, 1))},
		{ser(1, a, pt(6, 7, 1), pt(5, 7, 1))},
		{ser(1, a, pt(5, 7, 1)), ser(2, b)},
		{ser(1, a), ser(2, b, pt(5, 7, 1))},
		{ser(2, b), ser(1, a, pt(5, 7, 1))},
		{ser(1, a, pt(5, 7, 1)), ser(3, b)},
		{ser(1, a, pt(5, 7, 1)), ser(2, a)},
		wide(4096),
		wide(4097),
	}
	for i, p := range all {
		for j, q := range all {
			if got, want := block.Same(p, clone(q)), i == j; got != want || plainSame(p, q) != want {
				t.Errorf("Same of %s and %s: %v", short(p), short(q), got)
			}
		}
	}
	if !block.Same(nil, list()) || !block.Same(list(ser(1, nil)), list(api.Series{Ref: 1, Labels: api.Labels{}, Points: []api.Point{}})) {
		t.Error("lists that are nil and empty are told apart")
	}
}

func TestSameOfDrawn(t *testing.T) {
	d := sample.Draws(72)
	told := map[bool]int{}
	for range 4000 {
		l := drawn(d, 3)
		m := clone(l)
		for range d.Below(3) {
			m = spoilt(d, m)
		}
		want := plainSame(l, m)
		told[want]++
		if block.Same(l, m) != want || block.Same(m, l) != want {
			t.Fatalf("Same of %s and %s: want %v", short(l), short(m), want)
		}
	}
	if told[true] < 1000 || told[false] < 1000 {
		t.Error("what was asked tells little", told)
	}
}

func TestCount(t *testing.T) {
	a := of("a", "x")
	for _, c := range []struct {
		l    []api.Series
		n, m int
	}{
		{nil, 0, 0},
		{list(), 0, 0},
		{list(ser(1, a)), 1, 0},
		{list(ser(1, a, pt(5, 7, 1))), 1, 1},
		{list(ser(1, a, many(3)...), ser(2, nil), ser(3, a, many(4)...)), 3, 7},
		{list(ser(0, of("", "")), ser(0, nil, pt(0, 0, 0), pt(0, 0, 0))), 2, 2}, // also of what is not right
		{wide(4097), 4097, 4097},
		{list(ser(1, a, many(65537)...), ser(1, a, many(65537)...)), 2, 131074},
	} {
		if n, m := block.Count(c.l); n != c.n || m != c.m {
			t.Errorf("Count of %s: %d, %d, want %d, %d", short(c.l), n, m, c.n, c.m)
		}
	}
}
