package numeral_test

import (
	"math"
	"slices"
	"testing"

	"gherkin/api"
	"gherkin/numeral"
)

// noNumerals returns slices of numbers of any size and sign that are no
// numerals, also some that would be with fewer bits, or if a difference wrapped
// around.
func noNumerals() [][]int {
	return [][]int{
		{0}, {1}, {-1}, {-2}, {61}, {62}, {100}, {2, 2}, {3, 2}, {4, 3}, {60, 59}, {60, 60}, {2, 4}, {4, 6}, {2, 60},
		{61, 4}, {61, 59}, {4, 2, 0}, {4, 1}, {4, 0}, {4, -2}, {6, 4, 3}, {6, 5, 2}, {7, 6, 4}, {6, 3, 2}, {6, 4, 6}, {5, 2, 5},
		{8, 6, 4, 2, 0}, {8, 6, 4, 2, 2}, {6, 4, 2, -1}, slices.Repeat([]int{2}, 1000),
		{1<<32 + 4}, {1<<32 + 6, 4}, {6, 1<<32 + 4}, {-1<<32 + 4}, {256 + 4}, {1<<62 + 4}, {math.MaxInt}, {math.MinInt},
		{math.MaxInt, 4}, {math.MinInt, 4}, {math.MinInt, math.MaxInt}, {math.MaxInt, math.MinInt}, {4, math.MinInt}, {4, math.MaxInt},
		{6, math.MinInt, 4}, {math.MinInt, math.MinInt}, {math.MaxInt, math.MaxInt - 2}, {2, math.MinInt}, {3, math.MinInt + 1},
	}
}

// wrong returns numbers of any size and sign that are not from low to high,
// also some that would be with fewer bits.
func wrong(low, high int) []int {
	return []int{
		low - 1, low - 2, low - 100, high + 1, high + 2, high + 100, 1<<40 + high, 1<<48 + low,
		1<<62 + low, 1<<62 + high, -1<<48 + high, -1<<62 + low, math.MaxInt, math.MinInt, math.MinInt + high, math.MaxInt - high,
	}
}

// refused checks that there is no value together with ErrArg.
func refused(t *testing.T, e api.Errno, noValue bool, call string, arguments ...any) {
	t.Helper()
	if e != api.ErrArg || !noValue {
		t.Errorf("%s of %v: error %d, no value: %t; not ErrArg without a value", call, arguments, e, noValue)
	}
}

// P3.1, P3.3
func TestNoFunctionTakesAnotherNumber(t *testing.T) {
	for _, n := range wrong(0, greatest) {
		l, e := numeral.Encode(n)
		refused(t, e, len(l) == 0, "Encode", n)
		shift, e := numeral.Shift(n)
		refused(t, e, shift == 0, "Shift", n)
		for _, other := range append([]int{0, 1, 11, greatest}, wrong(0, greatest)...) {
			product, e := numeral.Circle(n, other)
			refused(t, e, product == 0, "Circle", n, other)
			product, e = numeral.Circle(other, n)
			refused(t, e, product == 0, "Circle", other, n)
		}
	}
}

// P3.1, P3.2: ErrArg also where a value is above 10^12.
func TestNoFunctionTakesAnotherNumeral(t *testing.T) {
	for _, l := range noNumerals() {
		n, e := numeral.Value(l)
		refused(t, e, n == 0, "Value", l)
		for _, other := range append([][]int{nil, {2}, {6, 4}, {60}, {60, 58}}, noNumerals()...) {
			for _, c := range [][2][]int{{l, other}, {other, l}} {
				sum, e := numeral.Add(c[0], c[1])
				refused(t, e, len(sum) == 0, "Add", c[0], c[1])
				less, e := numeral.Less(c[0], c[1])
				refused(t, e, !less, "Less", c[0], c[1])
			}
		}
	}
}

// P3.4
func TestWordTakesNoOtherLength(t *testing.T) {
	for _, n := range wrong(0, 2000) {
		word, e := numeral.Word(n)
		refused(t, e, word == "", "Word", n)
	}
}

// P3.5
func TestTheGameTakesNoOtherHeaps(t *testing.T) {
	for _, n := range wrong(0, highestHeap) {
		for _, other := range append([]int{0, 1, 618034, highestHeap, n}, wrong(0, highestHeap)...) {
			for _, h := range [][2]int{{n, other}, {other, n}} {
				cold, e := numeral.Cold(h[0], h[1])
				refused(t, e, !cold, "Cold", h)
				m, e := numeral.Move(h[0], h[1])
				refused(t, e, m == [2]int{}, "Move", h)
			}
		}
	}
	for _, n := range wrong(0, 100_000) {
		pair, e := numeral.Pair(n)
		refused(t, e, pair == [2]int{}, "Pair", n)
	}
}

// P3.6
func TestDigitsAndAlongTakeNoOtherFraction(t *testing.T) {
	others := [][]int{
		nil, {}, {0}, {-1}, {10}, {100}, {2, 0}, {0, 2}, {2, 1, 0}, {2, 10}, {10, 2}, {2, -1, 3}, {9, 9, 11},
		slices.Repeat([]int{1}, 11), slices.Repeat([]int{9}, 11), slices.Repeat([]int{9}, 100), slices.Repeat([]int{1}, 100_000),
		{1<<32 + 2}, {256 + 2, 1}, {2, 1<<62 + 1}, {math.MaxInt}, {math.MinInt}, {2, math.MinInt}, {math.MaxInt, math.MaxInt, math.MaxInt},
	}
	for _, q := range others {
		for _, n := range []int{0, 1, -1, 5, math.MaxInt, math.MinInt} {
			c, e := numeral.Digits(q, n)
			refused(t, e, len(c) == 0, "Digits", q, n)
		}
		for _, c := range [][]int{nil, {}, {0}, {0, 0}, make([]int, len(q)), q} {
			n, e := numeral.Along(q, c)
			refused(t, e, n == 0, "Along", q, c)
		}
	}
}

// P3.6
func TestDigitsTakesNoOtherNumber(t *testing.T) {
	for _, q := range append(fractions(3, 4), longFractions()...) {
		for _, n := range wrong(0, denominator(q, len(q))-1) {
			c, e := numeral.Digits(q, n)
			refused(t, e, len(c) == 0, "Digits", q, n)
		}
	}
}

// P3.6
func TestAlongTakesNoOtherDigits(t *testing.T) {
	for _, x := range []struct{ q, c []int }{
		{[]int{2, 1, 1}, nil}, {[]int{2, 1, 1}, []int{}}, {[]int{2, 1, 1}, []int{1}}, {[]int{2, 1, 1}, []int{0, 0}}, {[]int{2, 1, 1}, []int{0, 0, 0, 0}},
		{[]int{2, 1, 1}, []int{2, 0, 0}}, {[]int{2, 1, 1}, []int{0, 2, 0}}, {[]int{2, 1, 1}, []int{0, 0, 2}},
		{[]int{2, 1, 1}, []int{1, 1, 0}}, {[]int{2, 1, 1}, []int{0, 1, 1}}, {[]int{2, 1, 1}, []int{1, 1, 1}},
		{[]int{2, 1, 1}, []int{-1, 0, 1}}, {[]int{2, 1, 1}, []int{0, -1, 1}}, {[]int{2, 1, 1}, []int{0, 0, -1}},
		{[]int{1}, []int{1}}, {[]int{1, 3}, []int{1, 0}}, {[]int{9}, []int{9}}, {[]int{3, 2}, []int{1, 2}}, {[]int{3, 2}, []int{3, 0}},
		{[]int{3, 2, 4}, []int{0, 1, 4}}, {[]int{3, 2, 4}, []int{0, 0, 5}}, {[]int{9, 9}, []int{8, 9}},
		{[]int{2, 1, 1}, []int{1 << 32, 0, 0}}, {[]int{2, 1, 1}, []int{0, 0, 1<<32 + 1}}, {[]int{2, 1, 1}, []int{math.MinInt, 0, 1}},
		{[]int{2, 1, 1}, []int{math.MaxInt, 0, 0}}, {[]int{2, 1, 1}, []int{0, math.MinInt, math.MinInt}}, {[]int{2, 1, 1}, make([]int, 100_000)},
	} {
		n, e := numeral.Along(x.q, x.c)
		refused(t, e, n == 0, "Along", x.q, x.c)
	}
}

// P3.7
func TestGapsTakesNoOtherCircle(t *testing.T) {
	for _, c := range [][3]int{
		{1, 1, 1}, {0, 1, 1}, {1, 0, 1}, {0, 0, 0}, {1, 1001, 1}, {1, 1001, 1001}, {1, -8, 1}, {-1, -8, -3},
		{0, 8, 3}, {8, 8, 3}, {9, 8, 3}, {-3, 8, 3}, {11, 8, 3}, {-5, 8, 3}, {2, 8, 3}, {4, 8, 3}, {6, 8, 1}, {6, 9, 9}, {500, 1000, 5}, {999, 999, 1},
		{3, 8, 0}, {3, 8, 9}, {3, 8, -1}, {3, 8, 1000}, {1, 2, 3}, {1, 1000, 1001}, {2, 4, 5},
	} {
		list, e := numeral.Gaps(c[0], c[1], c[2])
		refused(t, e, len(list) == 0, "Gaps", c)
	}
	for _, n := range wrong(2, 1000) {
		list, e := numeral.Gaps(1, n, 1)
		refused(t, e, len(list) == 0, "Gaps", 1, n, 1)
		list, e = numeral.Gaps(n, n, n)
		refused(t, e, len(list) == 0, "Gaps", n, n, n)
	}
	for _, m := range []int{2, 8, 997, 1000} {
		for _, n := range wrong(1, m) {
			list, e := numeral.Gaps(1, m, n)
			refused(t, e, len(list) == 0, "Gaps", 1, m, n)
			list, e = numeral.Gaps(n, m, 1)
			refused(t, e, len(list) == 0, "Gaps", n, m, 1)
		}
	}
	for m := 2; m <= 60; m++ {
		allowed := coprime(m)
		for p := -m; p <= 2*m; p++ {
			list, e := numeral.Gaps(p, m, m)
			if slices.Contains(allowed, p) {
				if e != api.OK || len(list) != 1 {
					t.Errorf("Gaps(%d, %d, %d): %v, error %d", p, m, m, list, e)
				}
			} else {
				refused(t, e, len(list) == 0, "Gaps", p, m, m)
			}
		}
	}
}

// spoiled calls f, writes over its result, and calls it again: the second
// result must be as the first one was.
func spoiled[E comparable](t *testing.T, name string, other E, f func() ([]E, api.Errno)) {
	t.Helper()
	result, e := f()
	want := slices.Clone(result)
	for i := range result {
		result[i] = other
	}
	_ = append(result, other)
	again, f2 := f()
	if e != api.OK || f2 != api.OK || !slices.Equal(again, want) {
		t.Errorf("%s: %v, and later %v; errors %d and %d", name, want, again, e, f2)
	}
}

// Rule 4: a function changes neither its arguments nor what lies behind them,
// and who changes a result changes neither an argument nor a later result.
func TestResultsAreNew(t *testing.T) {
	a, b := []int{9, 6, 2, 99, 99}, []int{8, 4, 99, 99}
	q, c := []int{3, 2, 4, 99, 99}, []int{2, 1, 3, 99, 99}
	old := [][]int{slices.Clone(a), slices.Clone(b), slices.Clone(q), slices.Clone(c)}
	for n := range 40 {
		spoiled(t, "Encode", 77, func() ([]int, api.Errno) { return numeral.Encode(n) })
	}
	spoiled(t, "Add", 77, func() ([]int, api.Errno) { return numeral.Add(a[:3], b[:2]) })
	spoiled(t, "Add of nothing", 77, func() ([]int, api.Errno) { return numeral.Add(a[:3], b[:0]) })
	spoiled(t, "Add to nothing", 77, func() ([]int, api.Errno) { return numeral.Add(nil, a[:3]) })
	spoiled(t, "Digits", 77, func() ([]int, api.Errno) { return numeral.Digits(q[:3], 12) })
	spoiled(t, "Gaps", [2]int{7, 7}, func() ([][2]int, api.Errno) { return numeral.Gaps(5, 13, 6) })
	if n, e := numeral.Along(q[:3], c[:3]); n != sumAlong(q[:3], c[:3]) || e != api.OK {
		t.Errorf("Along(%v, %v): %d, error %d", q[:3], c[:3], n, e)
	}
	if n := mustValue(t, a[:3]); n != 43 {
		t.Errorf("Value(%v): %d", a[:3], n)
	}
	if less, e := numeral.Less(a[:3], b[:2]); less || e != api.OK {
		t.Errorf("Less(%v, %v): %t, error %d", a[:3], b[:2], less, e)
	}
	for i, l := range [][]int{a, b, q, c} {
		if !slices.Equal(l, old[i]) {
			t.Errorf("the argument %v became %v", old[i], l)
		}
	}
}

// Rule 4: a nil slice is an empty one.
func TestNilIsTheNumeralOf0(t *testing.T) {
	for _, l := range [][]int{nil, {}} {
		if n := mustValue(t, l); n != 0 {
			t.Errorf("Value of %#v: %d", l, n)
		}
		for _, other := range [][]int{nil, {}, {6, 4}} {
			if sum, e := numeral.Add(l, other); e != api.OK || !slices.Equal(sum, other) {
				t.Errorf("Add of %#v and %#v: %v, error %d", l, other, sum, e)
			}
			if less, e := numeral.Less(l, other); e != api.OK || less != (len(other) > 0) {
				t.Errorf("Less of %#v and %#v: %t, error %d", l, other, less, e)
			}
			if less, e := numeral.Less(other, l); e != api.OK || less {
				t.Errorf("Less of %#v and %#v: %t, error %d", other, l, less, e)
			}
		}
	}
	if l := mustEncode(t, 0); len(l) != 0 {
		t.Errorf("Encode(0): %v", l)
	}
}
