package shares_test

import (
	"math"
	"slices"
	"testing"

	"gherkin/api"
	"gherkin/shares"
)

// wrong returns numbers of any size and sign that are not from low to high,
// also some that would be with fewer bits.
func wrong(low, high int) []int {
	return []int{
		low - 1, low - 2, low - 100_000, high + 1, high + 2, high + 100_000, 1<<40 + high, 1<<48 + low,
		1<<62 + low, 1<<62 + high, -1<<48 + high, -1<<62 + low, math.MaxInt, math.MinInt, math.MinInt + high, math.MaxInt - high,
	}
}

// noShares returns pairs of numbers that are no shares.
func noShares() []share {
	list := []share{
		{0, 0}, {0, 1}, {1, 1}, {1, 0}, {0, 2}, {2, 2}, {3, 2}, {5, 5}, {60, 60}, {61, 60}, {59, 61}, {1, 61}, {60, 61}, {61, 61}, {1, -2}, {-1, 2}, {-1, -2}, {-3, -2}, {30, 120}, {0, 60}, {-1, 60},
		{math.MinInt, math.MinInt}, {math.MinInt, math.MaxInt}, {math.MaxInt, math.MinInt}, {math.MaxInt, math.MaxInt}, {math.MaxInt - 1, math.MaxInt}, {math.MinInt, -1}, {math.MinInt, 0},
	}
	for b := 2; b <= 60; b++ {
		list = append(list, share{0, b}, share{b, b}, share{b + 1, b}, share{-b, b}, share{-1, b})
	}
	for _, b := range wrong(2, 60) {
		list = append(list, share{1, b}, share{b - 1, b}, share{b / 2, b})
	}
	for _, a := range wrong(1, 59) {
		list = append(list, share{a, 60}, share{a, 2}, share{a, 31})
	}
	return list
}

// refused checks that there is no value together with ErrArg.
func refused(t *testing.T, e api.Errno, noValue bool, call string, arguments ...any) {
	t.Helper()
	if e != api.ErrArg || !noValue {
		t.Errorf("%s of %v: error %d, no value: %t; not ErrArg without a value", call, arguments, e, noValue)
	}
}

// P5.1, P5.2, P5.3, P5.7: for a share that is none.
func TestNoFunctionTakesAnotherShare(t *testing.T) {
	for _, s := range noShares() {
		l, e := shares.Greedy(s.a, s.b)
		refused(t, e, len(l) == 0, "Greedy", s.a, s.b)
		l, e = shares.Engel(s.a, s.b)
		refused(t, e, len(l) == 0, "Engel", s.a, s.b)
		for _, terms := range []int{1, 2, 3, 4, 0, 5, math.MaxInt} {
			l, e = shares.Short(s.a, s.b, terms, 300)
			refused(t, e, len(l) == 0, "Short", s.a, s.b, terms, 300)
			l, e = shares.Short(s.a, s.b, terms, 1)
			refused(t, e, len(l) == 0, "Short", s.a, s.b, terms, 1)
			n, e := shares.Bound(s.a, s.b, terms)
			refused(t, e, n == 0, "Bound", s.a, s.b, terms)
		}
		for _, list := range [][]int{nil, {2}, {3, 6}, {1}, {0}, {-1, 2}, {2, 3, 6}, {30, 60}} {
			ok, e := shares.Check(s.a, s.b, list)
			refused(t, e, !ok, "Check", s.a, s.b, list)
		}
	}
}

// P5.1, P5.2, P5.3, P5.7: the shares at the ends are taken.
func TestSharesAtTheEnds(t *testing.T) {
	for _, s := range []share{{1, 2}, {1, 60}, {59, 60}, {30, 60}, {58, 59}, {1, 59}} {
		mustGreedy(t, s)
		mustEngel(t, s)
		accepts(t, s, nil)
		for terms := 1; terms <= 4; terms++ {
			for _, most := range []int{2, 300} {
				if _, e := shares.Short(s.a, s.b, terms, most); e == api.ErrArg {
					t.Errorf("Short(%d, %d, %d, %d): error %d", s.a, s.b, terms, most, e)
				}
			}
		}
		for terms := 1; terms <= 3; terms++ {
			if _, e := shares.Bound(s.a, s.b, terms); e == api.ErrArg {
				t.Errorf("Bound(%d, %d, %d): error %d", s.a, s.b, terms, e)
			}
		}
	}
}

// P5.4, P5.5, P5.6
func TestNumbersAtTheEnds(t *testing.T) {
	for _, n := range []int{1, 2000} {
		mustPractical(t, n)
		for _, m := range []int{1, 10_000} {
			if _, e := shares.Parts(n, m); e == api.ErrArg {
				t.Errorf("Parts(%d, %d): error %d", n, m, e)
			}
		}
	}
	for _, n := range []int{2, 300} {
		if l, e := shares.Three(n); e != api.OK {
			t.Errorf("Three(%d): %v, error %d", n, l, e)
		}
	}
	for _, d := range []int{2, 100_000} {
		if l, e := shares.Split(d); e != api.OK {
			t.Errorf("Split(%d): %v, error %d", d, l, e)
		}
	}
}

// P5.2
func TestShortTakesNoOtherTermsAndLimits(t *testing.T) {
	for _, s := range []share{{1, 2}, {4, 5}, {1, 60}, {59, 60}} {
		for _, terms := range append(wrong(1, 4), 0, 5, -4) {
			for _, most := range []int{2, 100, 300, 1, 301} {
				l, e := shares.Short(s.a, s.b, terms, most)
				refused(t, e, len(l) == 0, "Short", s.a, s.b, terms, most)
			}
		}
		for _, most := range append(wrong(2, 300), 1, 0, -1, 301) {
			for terms := 0; terms <= 5; terms++ {
				l, e := shares.Short(s.a, s.b, terms, most)
				refused(t, e, len(l) == 0, "Short", s.a, s.b, terms, most)
			}
		}
	}
}

// P5.7
func TestBoundTakesNoOtherTerms(t *testing.T) {
	for _, s := range []share{{1, 2}, {4, 5}, {1, 60}, {59, 60}} {
		for _, terms := range append(wrong(1, 3), 0, 4, -3) {
			n, e := shares.Bound(s.a, s.b, terms)
			refused(t, e, n == 0, "Bound", s.a, s.b, terms)
		}
	}
}

// P5.4
func TestPracticalAndPartsTakeNoOtherNumber(t *testing.T) {
	for _, n := range append(wrong(1, 2000), 0, 2001, 2002, -12, 4096) {
		ok, e := shares.Practical(n)
		refused(t, e, !ok, "Practical", n)
		for _, m := range []int{1, 2, 10_000, 0, 10_001, -1} {
			l, e := shares.Parts(n, m)
			refused(t, e, len(l) == 0, "Parts", n, m)
		}
	}
	for _, m := range append(wrong(1, 10_000), 0, -1, -11, 10_001) {
		for _, n := range []int{1, 7, 12, 2000, 0, 2001} {
			l, e := shares.Parts(n, m)
			refused(t, e, len(l) == 0, "Parts", n, m)
		}
	}
}

// P5.5, P5.6
func TestThreeAndSplitTakeNoOtherNumber(t *testing.T) {
	for _, n := range append(wrong(2, 300), 1, 0, -1, -5, 301) {
		l, e := shares.Three(n)
		refused(t, e, l == [3]int{}, "Three", n)
	}
	for _, d := range append(wrong(2, 100_000), 1, 0, -1, -6, 100_001) {
		l, e := shares.Split(d)
		refused(t, e, l == [2]int{}, "Split", d)
	}
}

// spoiled calls f, writes over its result, and calls it again: the second
// result must be as the first one was.
func spoiled(t *testing.T, name string, f func() ([]int, api.Errno)) {
	t.Helper()
	result, e := f()
	want := slices.Clone(result)
	for i := range result {
		result[i] = 77
	}
	_ = append(result, 77)
	again, f2 := f()
	if e != api.OK || f2 != api.OK || !slices.Equal(again, want) || len(want) == 0 {
		t.Errorf("%s: %v, and later %v; errors %d and %d", name, want, again, e, f2)
	}
}

// Rule 4: Check changes neither its list nor what lies behind it, and who
// changes a result changes no later one.
func TestResultsAreNew(t *testing.T) {
	spoiled(t, "Greedy", func() ([]int, api.Errno) { return shares.Greedy(4, 5) })
	spoiled(t, "Engel", func() ([]int, api.Errno) { return shares.Engel(4, 5) })
	spoiled(t, "Short", func() ([]int, api.Errno) { return shares.Short(4, 5, 3, 100) })
	spoiled(t, "Parts", func() ([]int, api.Errno) { return shares.Parts(12, 11) })
	for _, l := range [][]int{{2, 4, 20, 99, 99}, {20, 4, 2, 99, 99}, {2, 4, 21, 99, 99}} {
		old := slices.Clone(l)
		if accepts(t, share{4, 5}, l[:3]) != slices.Equal(l, []int{2, 4, 20, 99, 99}) || !slices.Equal(l, old) {
			t.Errorf("Check(4, 5, %v): the list became %v", old[:3], l)
		}
	}
}
