package covers_test

import (
	"math"
	"slices"
	"testing"

	"gherkin/api"
	"gherkin/covers"
)

// wrong returns numbers of any size and sign that are not from low to high,
// also some that would be with fewer bits.
func wrong(low, high int) []int {
	return []int{
		low - 1, low - 2, low - 100, high + 1, high + 2, high + 100, 1<<40 + high, 1<<48 + low,
		1<<62 + low, 1<<62 + high, -1<<48 + high, -1<<62 + low, math.MaxInt, math.MinInt, math.MinInt + high, math.MaxInt - high,
	}
}

// noSystems returns slices of pairs that are no systems.
func noSystems() [][][2]int {
	list := [][][2]int{
		nil, {}, {{0, 0}}, {{0, 2}, {0, 0}}, {{2, 2}}, {{1, 1}}, {{60, 60}}, {{0, 61}}, {{-1, 2}}, {{0, -2}}, {{-2, -2}}, {{-1, -2}}, {{3, 2}, {0, 1}},
		slices.Repeat([][2]int{{0, 2}}, 11), slices.Repeat([][2]int{{0, 1}}, 11), slices.Repeat([][2]int{{0, 2}}, 100_000),
		// Wholes above 10080, some of which wrap around or are small with fewer bits.
		{{0, 32}, {0, 9}, {0, 5}, {0, 7}, {0, 11}}, {{0, 11}, {0, 32}, {0, 9}, {0, 5}, {0, 7}}, {{0, 59}, {0, 57}, {0, 58}}, {{0, 32}, {0, 27}, {0, 25}},
		{{0, 59}, {0, 53}, {0, 47}, {0, 43}, {0, 41}, {0, 37}, {0, 31}, {0, 29}, {0, 23}, {0, 60}}, {{0, 60}, {0, 59}, {0, 9}}, {{0, 59}, {0, 43}, {0, 4}},
		{{0, 10}, {0, 11}, {0, 7}, {0, 27}}, {{0, 32}, {0, 59}, {0, 60}}, {{0, 13}, {0, 16}, {0, 49}}, {{0, 47}, {0, 43}, {0, 5}}, {{0, 1}, {0, 53}, {0, 59}, {0, 1}, {0, 4}},
	}
	for _, m := range wrong(1, 60) {
		list = append(list, [][2]int{{0, m}}, [][2]int{{0, 2}, {0, m}}, [][2]int{{m, m}}, [][2]int{{m / 2, m}, {0, 1}})
	}
	for _, m := range []int{1, 2, 7, 60} {
		for _, a := range wrong(0, m-1) {
			list = append(list, [][2]int{{a, m}}, [][2]int{{0, 1}, {a, m}}, [][2]int{{a, m}, {0, 1}})
		}
	}
	return list
}

// refused checks that there is no value together with ErrArg.
func refused(t *testing.T, e api.Errno, noValue bool, call string, arguments ...any) {
	t.Helper()
	if e != api.ErrArg || !noValue {
		t.Errorf("%s of %v: error %d, no value: %t; not ErrArg without a value", call, arguments, e, noValue)
	}
}

// P4.1, P4.2, P4.3, P4.6
func TestNoFunctionTakesWhatIsNoSystem(t *testing.T) {
	for _, l := range noSystems() {
		n, e := covers.Left(l)
		refused(t, e, n == 0, "Left", l)
		n, e = covers.Twice(l)
		refused(t, e, n == 0, "Twice", l)
		share, e := covers.Share(l)
		refused(t, e, share == api.Frac{}, "Share", l)
		list, e := covers.Needless(l)
		refused(t, e, len(list) == 0, "Needless", l)
		for _, i := range []int{0, 1, 10, -1} {
			result, e := covers.Refine(l, i, 2)
			refused(t, e, len(result) == 0, "Refine", l, i, 2)
		}
	}
}

// P4.1, P4.2: the whole 10080, 10 pairs, and the residues at both ends are
// allowed.
func TestSystemsAtTheEnds(t *testing.T) {
	for _, l := range [][][2]int{
		{{0, 60}}, {{59, 60}}, {{0, 1}}, {{0, 32}, {8, 9}, {0, 5}, {6, 7}}, {{31, 32}, {44, 45}, {55, 56}, {59, 60}, {0, 1}, {0, 1}, {0, 1}, {0, 1}, {0, 1}, {0, 1}},
		slices.Repeat([][2]int{{59, 60}}, 10),
	} {
		if share, e := covers.Share(l); e != api.OK || share.Den == 0 {
			t.Errorf("Share(%v): %v, error %d", l, share, e)
		}
		if _, e := covers.Left(l); e == api.ErrArg {
			t.Errorf("Left(%v): error %d", l, e)
		}
		if _, e := covers.Twice(l); e == api.ErrArg {
			t.Errorf("Twice(%v): error %d", l, e)
		}
	}
}

// P4.4
func TestChooseAndFitTakeNoOtherModuli(t *testing.T) {
	list := [][]int{
		nil, {}, {0}, {13}, {-1}, {-12}, {2, 0}, {2, 13}, {0, 2}, {13, 2}, slices.Repeat([]int{2}, 8), slices.Repeat([]int{1}, 8), slices.Repeat([]int{12}, 100_000),
		{2, 2, 13}, {1, -1}, {2, 2, 2, 2, 2, 2, 60},
		// The wholes 13860 and 27720.
		{4, 9, 5, 7, 11}, {11, 7, 5, 9, 4}, {8, 9, 5, 7, 11}, {11, 8, 9, 10, 7}, {12, 11, 10, 9, 8, 7, 1}, {2, 2, 12, 9, 5, 7, 11},
	}
	for _, m := range wrong(1, 12) {
		list = append(list, []int{m}, []int{2, 2, m}, []int{m, 1}, []int{m, m})
	}
	for _, m := range list {
		l, e := covers.Choose(m)
		refused(t, e, len(l) == 0, "Choose", m)
		l, e = covers.Fit(m)
		refused(t, e, len(l) == 0, "Fit", m)
	}
}

// P4.5
func TestDaysAndAlwaysTakeNoOtherNumber(t *testing.T) {
	numbers := append(wrong(1, 999_999), 0, 2, 4, -1, -3, 78556, 999_998, 1_000_000, 1_000_001, 1_000_003)
	for _, k := range numbers {
		// ErrArg before ErrSize, which the other primes have with some k.
		for _, primes := range [][]int{{3}, {3, 5, 7, 13, 19, 37, 73}, {67}, {67, 83, 101}, {59, 61, 53}, {4}} {
			l, e := covers.Days(k, primes)
			refused(t, e, len(l) == 0, "Days", k, primes)
			n, e := covers.Always(k, primes)
			refused(t, e, n == 0, "Always", k, primes)
		}
	}
	for _, k := range []int{1, 3, 999_999} {
		if _, e := covers.Days(k, []int{3}); e != api.OK {
			t.Errorf("Days(%d, 3): error %d", k, e)
		}
		if n, e := covers.Always(k, []int{3}); n < 1 || e != api.OK {
			t.Errorf("Always(%d, 3): %d, error %d", k, n, e)
		}
	}
}

// P4.5
func TestDaysAndAlwaysTakeNoOtherPrimes(t *testing.T) {
	list := [][]int{
		nil, {}, {2}, {1}, {0}, {-1}, {-3}, {4}, {2, 3}, {3, 2}, {3, 3}, {3, 5, 3}, {5, 3, 7, 11, 13, 17, 19, 5}, {67, 67}, {67, 4}, {4, 67},
		{3, 5, 7, 11, 13, 17, 19, 23, 29}, slices.Repeat([]int{3}, 100_000), {307}, {3, 307}, {311, 3}, {65537}, {3 + 1<<32}, {3, 5 + 1<<32}, {3 + 1<<62},
		{math.MaxInt}, {math.MinInt}, {3, math.MaxInt}, {math.MinInt + 3}, {3, -5}, {-3, -5}, {59, 61, 53, 9},
	}
	for n := -300; n < 400; n++ {
		if !slices.Contains(oddPrimes(), n) {
			list = append(list, []int{n}, []int{3, n}, []int{n, 293})
		}
	}
	for _, primes := range list {
		for _, k := range []int{1, 78557, 2} {
			l, e := covers.Days(k, primes)
			refused(t, e, len(l) == 0, "Days", k, primes)
			n, e := covers.Always(k, primes)
			refused(t, e, n == 0, "Always", k, primes)
		}
	}
	// All primes below 300 are taken, and 8 of them.
	for _, p := range oddPrimes() {
		if _, e := covers.Always(1, []int{p}); e == api.ErrArg {
			t.Errorf("Always(1, %d): error %d", p, e)
		}
	}
	if _, e := covers.Always(1, []int{7, 23, 31, 47, 71, 73, 79, 89}); e == api.ErrArg {
		t.Errorf("Always of 8 primes: error %d", e)
	}
}

// P4.6
func TestRefineTakesNoOtherIndexOrNumber(t *testing.T) {
	for _, l := range [][][2]int{{{0, 1}}, {{0, 2}, {1, 2}}, exact, erdos} {
		for _, i := range append(wrong(0, len(l)-1), len(l)) {
			for _, r := range []int{2, 5, 0, math.MaxInt, math.MinInt} {
				result, e := covers.Refine(l, i, r)
				refused(t, e, len(result) == 0, "Refine", l, i, r)
			}
		}
		for _, r := range append(wrong(2, 5), 0, -2) {
			result, e := covers.Refine(l, 0, r)
			refused(t, e, len(result) == 0, "Refine", l, 0, r)
		}
	}
}

// spoiled calls f, writes over its result, and calls it again: the second
// result must be as the first one was.
func spoiled[E comparable](t *testing.T, name string, other E, f func() ([]E, api.Errno)) {
	t.Helper()
	result, e := f()
	want := slices.Clone(result)
	for i := range result {
		result[i] = other
	}
	_ = append(result, other)
	again, f2 := f()
	if e != api.OK || f2 != api.OK || !slices.Equal(again, want) || len(want) == 0 {
		t.Errorf("%s: %v, and later %v; errors %d and %d", name, want, again, e, f2)
	}
}

// Rule 4: a function changes neither its arguments nor what lies behind them,
// and who changes a result changes neither an argument nor a later result.
func TestResultsAreNew(t *testing.T) {
	behind := [2]int{99, 99}
	l := append(slices.Clone(erdos), [2]int{11, 12}, behind, behind, behind, behind, behind)
	m := []int{2, 3, 4, 6, 12, 99, 99}
	primes := []int{3, 5, 7, 99, 99, 99}
	oldL, oldM, oldPrimes := slices.Clone(l), slices.Clone(m), slices.Clone(primes)
	for i := range 6 {
		spoiled(t, "Refine", [2]int{7, 7}, func() ([][2]int, api.Errno) { return covers.Refine(l[:6], i, 2) })
	}
	spoiled(t, "Needless", 77, func() ([]int, api.Errno) { return covers.Needless(l[:6]) })
	spoiled(t, "Choose", [2]int{7, 7}, func() ([][2]int, api.Errno) { return covers.Choose(m[:5]) })
	spoiled(t, "Fit", [2]int{7, 7}, func() ([][2]int, api.Errno) { return covers.Fit(m[:1]) })
	spoiled(t, "Days", [2]int{7, 7}, func() ([][2]int, api.Errno) { return covers.Days(78557, primes[:3]) })
	covering(t, l[:6])
	disjoint(t, l[:6])
	mustShare(t, l[:6])
	if _, e := covers.Always(78557, primes[:3]); e != api.OK {
		t.Errorf("Always: error %d", e)
	}
	if !slices.Equal(l, oldL) || !slices.Equal(m, oldM) || !slices.Equal(primes, oldPrimes) {
		t.Errorf("the arguments became %v, %v and %v", l, m, primes)
	}
}
