package covers_test

import (
	"slices"
	"testing"

	"gherkin/api"
	"gherkin/covers"
)

// found checks a least number together with its error: it is the one wanted,
// or 0 with ErrNone if that is below 0.
func found(t *testing.T, want, n int, e api.Errno, call string, arguments ...any) {
	t.Helper()
	if want < 0 {
		if n != 0 || e != api.ErrNone {
			t.Errorf("%s of %v: %d, error %d, not ErrNone", call, arguments, n, e)
		}
	} else if n != want || e != api.OK {
		t.Errorf("%s of %v: %d, error %d, not %d", call, arguments, n, e, want)
	}
}

// P4.1
func TestLeftIsTheLeastNumberWithoutAMark(t *testing.T) {
	for _, l := range systems() {
		n, e := covers.Left(l)
		found(t, slices.Index(marks(l, wholeOf(l)), 0), n, e, "Left", l)
	}
}

// P4.1
func TestTwiceIsTheLeastNumberWithTwoMarks(t *testing.T) {
	for _, l := range systems() {
		several := func(times int) bool { return times >= 2 }
		n, e := covers.Twice(l)
		found(t, slices.IndexFunc(marks(l, wholeOf(l)), several), n, e, "Twice", l)
	}
}

// P4.1: -1 stands for ErrNone.
func TestLeftAndTwiceExamples(t *testing.T) {
	for _, c := range []struct {
		l           [][2]int
		left, twice int
	}{
		{erdos, -1, 0}, {exact, -1, -1}, {uneven, -1, -1}, {exact[:2], 3, -1}, {erdos[:4], 7, 0}, {erdos[1:], 2, 5},
		{[][2]int{{0, 1}}, -1, -1}, {[][2]int{{0, 1}, {0, 1}}, -1, 0}, {[][2]int{{0, 2}}, 1, -1}, {[][2]int{{1, 2}}, 0, -1},
		{[][2]int{{0, 60}}, 1, -1}, {[][2]int{{59, 60}}, 0, -1}, {[][2]int{{59, 60}, {59, 60}}, 0, 59},
		{[][2]int{{0, 2}, {1, 4}, {3, 8}, {7, 16}, {15, 32}}, 31, -1},
		// The last number of the whole.
		{[][2]int{{0, 2}, {1, 4}, {3, 8}, {7, 16}, {15, 48}, {31, 48}}, 47, -1},
		{[][2]int{{31, 32}, {44, 45}, {55, 56}}, 0, 223}, {[][2]int{{31, 32}, {44, 45}}, 0, 1439},
		{[][2]int{{58, 59}, {59, 60}}, 0, 3539}, {[][2]int{{0, 58}, {57, 58}, {1, 59}}, 2, 3305},
		{[][2]int{{31, 32}, {8, 9}, {4, 5}, {6, 7}}, 0, 34},
	} {
		n, e := covers.Left(c.l)
		found(t, c.left, n, e, "Left", c.l)
		n, e = covers.Twice(c.l)
		found(t, c.twice, n, e, "Twice", c.l)
	}
}

// P4.2
func TestShareIsThePartWithMarks(t *testing.T) {
	for _, l := range systems() {
		whole := wholeOf(l)
		count := covered(marks(l, whole))
		share := mustShare(t, l)
		if share.Num*whole != count*share.Den || !lowest(share) {
			t.Errorf("Share(%v): %v, not %d of %d", l, share, count, whole)
		}
	}
}

// lowest reports whether a fraction is in lowest terms.
func lowest(f api.Frac) bool {
	for d := 2; d <= f.Den; d++ {
		if f.Num%d == 0 && f.Den%d == 0 {
			return false
		}
	}
	return f.Den >= 1
}

// P4.2
func TestShareExamples(t *testing.T) {
	for _, c := range []struct {
		l    [][2]int
		want api.Frac
	}{
		{erdos, api.Frac{Num: 1, Den: 1}}, {exact, api.Frac{Num: 1, Den: 1}}, {exact[:2], api.Frac{Num: 3, Den: 4}}, {erdos[:4], api.Frac{Num: 11, Den: 12}},
		{[][2]int{{0, 1}}, api.Frac{Num: 1, Den: 1}}, {[][2]int{{7, 60}}, api.Frac{Num: 1, Den: 60}}, {[][2]int{{7, 60}, {7, 60}}, api.Frac{Num: 1, Den: 60}},
		{[][2]int{{0, 2}, {0, 3}}, api.Frac{Num: 2, Den: 3}}, {[][2]int{{0, 4}, {2, 4}}, api.Frac{Num: 1, Den: 2}},
		// 1 less 31/32 8/9 4/5 6/7.
		{[][2]int{{31, 32}, {8, 9}, {4, 5}, {6, 7}}, api.Frac{Num: 43, Den: 105}},
	} {
		if share := mustShare(t, c.l); share != c.want {
			t.Errorf("Share(%v): %v, not %v", c.l, share, c.want)
		}
	}
}

// P4.3
func TestNeedlessPairsLeaveTheSameNumbers(t *testing.T) {
	for _, l := range systems() {
		whole := wholeOf(l)
		var want []int
		for i := range l {
			if covered(marks(without(l, i), whole)) == covered(marks(l, whole)) {
				want = append(want, i)
			}
		}
		if list, e := covers.Needless(l); e != api.OK || !slices.Equal(list, want) {
			t.Errorf("Needless(%v): %v, error %d, not %v", l, list, e, want)
		}
	}
}

// P4.3
func TestNeedlessExamples(t *testing.T) {
	for _, c := range []struct {
		l    [][2]int
		want []int
	}{
		{erdos, nil}, {exact, nil}, {[][2]int{{0, 1}}, nil}, {[][2]int{{3, 60}}, nil},
		{[][2]int{{0, 1}, {0, 1}}, []int{0, 1}}, {[][2]int{{0, 2}, {0, 4}}, []int{1}}, {[][2]int{{0, 4}, {0, 2}}, []int{0}},
		// Each one alone: 0 1 and 2 cannot all be left out.
		{[][2]int{{0, 4}, {2, 4}, {0, 2}}, []int{0, 1, 2}}, {[][2]int{{0, 2}, {1, 2}, {0, 3}}, []int{2}},
		{append(slices.Clone(erdos), [2]int{11, 12}), []int{3, 5}}, {slices.Repeat([][2]int{{59, 60}}, 10), []int{0, 1, 2, 3, 4, 5, 6, 7, 8, 9}},
		{[][2]int{{0, 2}, {0, 3}}, nil}, {uneven, nil}, {append(slices.Clone(uneven), [2]int{5, 6}), []int{5, 6, 7}},
	} {
		if list, e := covers.Needless(c.l); e != api.OK || !slices.Equal(list, c.want) {
			t.Errorf("Needless(%v): %v, error %d, not %v", c.l, list, e, c.want)
		}
	}
}

// firstFound checks a system together with its error: it is the one wanted, or
// none with ErrNone if that is nil.
func firstFound(t *testing.T, want, l [][2]int, e api.Errno, call string, m []int) {
	t.Helper()
	f := api.OK
	if want == nil {
		f = api.ErrNone
	}
	if !slices.Equal(l, want) || e != f {
		t.Errorf("%s(%v): %v, error %d, not %v, error %d", call, m, l, e, want, f)
	}
}

// P4.4: all systems are tried, in their order.
func TestChooseAndFitTryAllResidues(t *testing.T) {
	lists := slices.Concat(atMost(1, 12), atMost(2, 12), atMost(3, 7), atMost(4, 4), listsOf(4, []int{2, 3, 6}), listsOf(5, []int{2, 4}), listsOf(5, []int{2, 3}))
	for _, m := range lists {
		days := multiple(m)
		var cover, fit [][2]int
		for _, l := range withModuli(m) {
			times := marks(l, days)
			if cover == nil && slices.Min(times) >= 1 {
				cover = l
			}
			if fit == nil && slices.Max(times) <= 1 {
				fit = l
			}
		}
		l, e := covers.Choose(m)
		firstFound(t, cover, l, e, "Choose", m)
		l, e = covers.Fit(m)
		firstFound(t, fit, l, e, "Fit", m)
	}
}

// P4.4
func TestChooseTakesTheLeastResiduesThatCanBeCompleted(t *testing.T) {
	for _, m := range someModuli() {
		l, e := covers.Choose(m)
		firstFound(t, firstWith(m, coverable), l, e, "Choose", m)
	}
}

// P4.4
func TestFitTakesTheLeastResiduesThatCanBeCompleted(t *testing.T) {
	for _, m := range someModuli() {
		l, e := covers.Fit(m)
		firstFound(t, firstWith(m, placeable), l, e, "Fit", m)
	}
}

// P4.4
func TestChooseExamples(t *testing.T) {
	for _, c := range []struct {
		m    []int
		want [][2]int
	}{
		{[]int{2, 3, 4, 6, 12}, [][2]int{{0, 2}, {0, 3}, {1, 4}, {1, 6}, {11, 12}}},
		{[]int{2, 3, 4}, nil}, {[]int{1}, [][2]int{{0, 1}}}, {[]int{2}, nil}, {[]int{12}, nil}, {[]int{2, 2}, [][2]int{{0, 2}, {1, 2}}},
		{[]int{1, 12}, [][2]int{{0, 1}, {0, 12}}}, {[]int{12, 1}, [][2]int{{0, 12}, {0, 1}}}, {[]int{2, 4, 4}, [][2]int{{0, 2}, {1, 4}, {3, 4}}},
		{[]int{4, 4, 2}, [][2]int{{0, 4}, {2, 4}, {1, 2}}}, {[]int{7, 7, 7, 7, 7, 7, 7}, [][2]int{{0, 7}, {1, 7}, {2, 7}, {3, 7}, {4, 7}, {5, 7}, {6, 7}}},
		{[]int{12, 12, 12, 12, 12, 12, 12}, nil}, {[]int{8, 3, 5, 7, 11}, nil}, {[]int{8, 3, 5, 7, 11, 2, 2}, [][2]int{{0, 8}, {0, 3}, {0, 5}, {0, 7}, {0, 11}, {0, 2}, {1, 2}}},
	} {
		l, e := covers.Choose(c.m)
		firstFound(t, c.want, l, e, "Choose", c.m)
	}
}

// P4.4
func TestFitExamples(t *testing.T) {
	for _, c := range []struct {
		m    []int
		want [][2]int
	}{
		{[]int{2, 4, 8}, [][2]int{{0, 2}, {1, 4}, {3, 8}}}, {[]int{2, 3}, nil}, {[]int{1}, [][2]int{{0, 1}}}, {[]int{1, 1}, nil}, {[]int{1, 12}, nil}, {[]int{12}, [][2]int{{0, 12}}},
		{[]int{8, 4, 2}, [][2]int{{0, 8}, {2, 4}, {1, 2}}}, {[]int{6, 10}, [][2]int{{0, 6}, {1, 10}}}, {[]int{6, 10, 4}, nil},
		// With 1 8 there would be no room for the 4.
		{[]int{8, 8, 4, 2}, [][2]int{{0, 8}, {4, 8}, {2, 4}, {1, 2}}},
		{[]int{2, 2, 2}, nil}, {[]int{12, 12, 12, 12, 12, 12, 12}, [][2]int{{0, 12}, {1, 12}, {2, 12}, {3, 12}, {4, 12}, {5, 12}, {6, 12}}},
		{[]int{6, 10, 6, 10}, [][2]int{{0, 6}, {1, 10}, {2, 6}, {3, 10}}},
	} {
		l, e := covers.Fit(c.m)
		firstFound(t, c.want, l, e, "Fit", c.m)
	}
}

// P4.5: all primes alone; a prime with a great e is no day too many if it has
// none.
func TestDaysOfOnePrime(t *testing.T) {
	for _, p := range oddPrimes() {
		for k := 1; k < 2*p+40; k += 2 {
			day, ok := dayOf(k, p)
			l, e := covers.Days(k, []int{p})
			switch {
			case !ok:
				if len(l) != 0 || e != api.OK {
					t.Errorf("Days(%d, %d): %v, error %d, not none", k, p, l, e)
				}
			case day[1] > 60:
				if len(l) != 0 || e != api.ErrSize {
					t.Errorf("Days(%d, %d): %v, error %d, not ErrSize", k, p, l, e)
				}
			case !slices.Equal(l, [][2]int{day}) || e != api.OK:
				t.Errorf("Days(%d, %d): %v, error %d, not %v", k, p, l, e, day)
			}
		}
	}
}

// P4.5
func TestDaysOfSeveralPrimes(t *testing.T) {
	sizes := 0
	for _, c := range numbersWithPrimes() {
		want, f := daysOf(c.k, c.primes)
		l, e := covers.Days(c.k, c.primes)
		if !slices.Equal(l, want) || e != f {
			t.Errorf("Days(%d, %v): %v, error %d, not %v, error %d", c.k, c.primes, l, e, want, f)
		}
		if f == api.ErrSize {
			sizes++
		}
	}
	if sizes < 100 || sizes > 1000 {
		t.Errorf("%d of the wholes are too large", sizes)
	}
}

// P4.5
func TestDaysExamples(t *testing.T) {
	for _, c := range []struct {
		k      int
		primes []int
		want   [][2]int
		e      api.Errno
	}{
		{1, []int{3}, [][2]int{{1, 2}}, api.OK}, {3, []int{3}, nil, api.OK}, {5, []int{3}, [][2]int{{0, 2}}, api.OK}, {7, []int{3}, [][2]int{{1, 2}}, api.OK},
		{999_999, []int{3, 7, 11, 13, 37}, nil, api.OK}, {999_999, []int{5}, [][2]int{{0, 4}}, api.OK},
		// No power of 2 is 6 modulo 7, and 83 has e 82.
		{1, []int{7}, nil, api.OK}, {1, []int{7, 3, 31, 5}, [][2]int{{1, 2}, {2, 4}}, api.OK}, {83, []int{83, 5}, [][2]int{{3, 4}}, api.OK},
		{1, []int{83, 5}, nil, api.ErrSize}, {1, []int{61}, [][2]int{{30, 60}}, api.OK}, {1, []int{67}, nil, api.ErrSize},
		{1, []int{59, 61, 53}, nil, api.ErrSize}, {1, []int{59, 61}, [][2]int{{29, 58}, {30, 60}}, api.OK}, {1, []int{59, 19, 37}, [][2]int{{29, 58}, {9, 18}, {18, 36}}, api.OK},
		{1, []int{3, 5, 11, 13, 17, 19, 29, 37}, [][2]int{{1, 2}, {2, 4}, {5, 10}, {6, 12}, {4, 8}, {9, 18}, {14, 28}, {18, 36}}, api.OK},
		{78557, []int{3, 5, 7, 13, 19, 37, 73}, [][2]int{{0, 2}, {1, 4}, {1, 3}, {11, 12}, {15, 18}, {27, 36}, {3, 9}}, api.OK},
	} {
		if l, e := covers.Days(c.k, c.primes); !slices.Equal(l, c.want) || e != c.e {
			t.Errorf("Days(%d, %v): %v, error %d, not %v, error %d", c.k, c.primes, l, e, c.want, c.e)
		}
	}
}

// P4.5
func TestAlwaysTriesAllNumbers(t *testing.T) {
	nones := 0
	for _, c := range numbersWithPrimes() {
		l, f := daysOf(c.k, c.primes)
		n, e := covers.Always(c.k, c.primes)
		if f == api.ErrSize {
			if n != 0 || e != f {
				t.Errorf("Always(%d, %v): %d, error %d, not ErrSize", c.k, c.primes, n, e)
			}
			continue
		}
		want := -1
		for i := 1; i <= wholeOf(append(l, [2]int{0, 1})); i++ {
			if !slices.ContainsFunc(c.primes, func(p int) bool { return divides(p, c.k, i) }) {
				want = i
				break
			}
		}
		found(t, want, n, e, "Always", c.k, c.primes)
		if want < 0 {
			nones++
		}
	}
	if nones < len(sierpinski) {
		t.Errorf("only %d times there is always a divisor", nones)
	}
}

// P4.5: -1 stands for ErrNone.
func TestAlwaysExamples(t *testing.T) {
	for _, s := range sierpinski {
		n, e := covers.Always(s.k, s.primes)
		found(t, -1, n, e, "Always", s.k, s.primes)
	}
	for _, c := range []struct {
		k      int
		primes []int
		want   int
	}{
		// n from 1 on, though 0 is not covered either.
		{1, []int{3}, 2}, {5, []int{3}, 1}, {3, []int{3}, 1}, {1, []int{7}, 1}, {83, []int{83}, 1}, {1, []int{3, 5}, 4}, {1, []int{3, 5, 17}, 8},
		{1, []int{3, 5, 17, 257}, 16}, {7, []int{3}, 2}, {7, []int{3, 5}, 2}, {7, []int{3, 29}, 4}, {78557, []int{3, 5, 7, 13, 19, 37}, 3},
		{78557, []int{5, 7, 13, 19, 37, 73}, 2},
	} {
		n, e := covers.Always(c.k, c.primes)
		found(t, c.want, n, e, "Always", c.k, c.primes)
	}
	for _, primes := range [][]int{{83}, {3, 83}, {59, 61, 53}, {3, 5, 7, 13, 19, 37, 73, 107}} {
		if n, e := covers.Always(78557, primes); n != 0 || e != api.ErrSize {
			t.Errorf("Always(78557, %v): %d, error %d, not ErrSize", primes, n, e)
		}
	}
}

// P4.6
func TestRefinePartsOnePair(t *testing.T) {
	for _, l := range systems() {
		for i := range l {
			for r := 2; r <= 5; r++ {
				want, f := parted(l, i, r), api.OK
				if !allowed(want) {
					want, f = nil, api.ErrArg
				}
				if result, e := covers.Refine(l, i, r); e != f || !slices.Equal(result, want) {
					t.Errorf("Refine(%v, %d, %d): %v, error %d, not %v, error %d", l, i, r, result, e, want, f)
				}
			}
		}
	}
}

// P4.6
func TestRefineExamples(t *testing.T) {
	full := slices.Repeat([][2]int{{0, 2}}, 9)
	for _, c := range []struct {
		l    [][2]int
		i, r int
		want [][2]int
		e    api.Errno
	}{
		{[][2]int{{0, 2}, {1, 2}}, 1, 2, exact, api.OK},
		{[][2]int{{0, 2}, {1, 2}}, 0, 3, [][2]int{{0, 6}, {2, 6}, {4, 6}, {1, 2}}, api.OK},
		{[][2]int{{0, 1}}, 0, 5, [][2]int{{0, 5}, {1, 5}, {2, 5}, {3, 5}, {4, 5}}, api.OK},
		{[][2]int{{7, 12}}, 0, 5, [][2]int{{7, 60}, {19, 60}, {31, 60}, {43, 60}, {55, 60}}, api.OK},
		{[][2]int{{0, 31}}, 0, 2, nil, api.ErrArg}, {[][2]int{{0, 30}}, 0, 2, [][2]int{{0, 60}, {30, 60}}, api.OK}, {[][2]int{{0, 13}}, 0, 5, nil, api.ErrArg},
		// 10 pairs, and 11.
		{full, 8, 2, append(slices.Clone(full[:8]), [2]int{0, 4}, [2]int{2, 4}), api.OK}, {full, 8, 3, nil, api.ErrArg},
		// The whole 10080, and one above it.
		{[][2]int{{5, 16}, {0, 9}, {0, 5}, {0, 7}}, 0, 2, [][2]int{{5, 32}, {21, 32}, {0, 9}, {0, 5}, {0, 7}}, api.OK},
		{[][2]int{{5, 16}, {0, 9}, {0, 5}, {0, 7}}, 1, 3, nil, api.ErrArg}, {[][2]int{{5, 32}, {0, 9}, {0, 5}, {0, 7}}, 3, 2, [][2]int{{5, 32}, {0, 9}, {0, 5}, {0, 14}, {7, 14}}, api.OK},
	} {
		if result, e := covers.Refine(c.l, c.i, c.r); e != c.e || !slices.Equal(result, c.want) {
			t.Errorf("Refine(%v, %d, %d): %v, error %d, not %v, error %d", c.l, c.i, c.r, result, e, c.want, c.e)
		}
	}
}
