package pell_test

import (
	"math"
	"testing"

	"gherkin/api"
	"gherkin/pell"
)

// refused checks that there is no value together with ErrArg.
func refused(t *testing.T, e api.Errno, noValue bool, call string, arguments ...any) {
	t.Helper()
	if e != api.ErrArg || !noValue {
		t.Errorf("%s of %v: error %d, no value: %t; not ErrArg without a value", call, arguments, e, noValue)
	}
}

// P1.1 to P1.7
func TestNoFunctionTakesAnotherD(t *testing.T) {
	for _, d := range wrongD() {
		list, e := pell.Expand(d)
		refused(t, e, len(list) == 0, "Expand", d)
		x, y, norm, e := pell.Unit(d)
		refused(t, e, x == 0 && y == 0 && norm == 0, "Unit", d)
		x, y, e = pell.Right(d)
		refused(t, e, x == 0 && y == 0, "Right", d)
		for _, k := range []int{0, 5, 20} {
			p, q, e := pell.Convergent(d, k)
			refused(t, e, p == 0 && q == 0, "Convergent", d, k)
		}
		for _, n := range []int{1, -1, 7, 2} {
			solutions, e := pell.Solve(d, n, 10)
			refused(t, e, len(solutions) == 0, "Solve", d, n, 10)
			classes, e := pell.Classes(d, n)
			refused(t, e, len(classes) == 0, "Classes", d, n)
			m, e := pell.Obstruct(d, n)
			refused(t, e, m == 0, "Obstruct", d, n)
		}
		same, e := pell.Same(d, 1, [2]int{1, 0}, [2]int{1, 0})
		refused(t, e, !same, "Same", d)
		p, q, e := pell.Best(d, 10)
		refused(t, e, p == 0 && q == 0, "Best", d, 10)
	}
}

// P1.3 to P1.6
func TestNoFunctionTakesAnotherN(t *testing.T) {
	for _, n := range wrongN() {
		solutions, e := pell.Solve(2, n, 10)
		refused(t, e, len(solutions) == 0, "Solve", 2, n, 10)
		classes, e := pell.Classes(2, n)
		refused(t, e, len(classes) == 0, "Classes", 2, n)
		m, e := pell.Obstruct(2, n)
		refused(t, e, m == 0, "Obstruct", 2, n)
	}
	for _, c := range []struct {
		d, n int
		s    [2]int
	}{{2, 119, [2]int{11, 1}}, {5, 121, [2]int{11, 0}}, {3, -108, [2]int{0, 6}}, {2, 0, [2]int{0, 0}}, {2, 1 << 40, [2]int{1 << 20, 0}}} {
		same, e := pell.Same(c.d, c.n, c.s, c.s)
		refused(t, e, !same, "Same", c)
	}
}

// P1.3 to P1.6: the greatest n of each sign is taken.
func TestTheGreatestNIsValid(t *testing.T) {
	for _, n := range []int{100, -100, 1, -1} {
		if _, e := pell.Solve(2, n, 10); e != api.OK {
			t.Errorf("Solve(2, %d, 10): error %d", n, e)
		}
		if _, e := pell.Classes(2, n); e != api.OK {
			t.Errorf("Classes(2, %d): error %d", n, e)
		}
		if _, e := pell.Obstruct(2, n); e != api.ErrNone {
			t.Errorf("Obstruct(2, %d): error %d", n, e)
		}
	}
	if _, e := pell.Same(2, 100, [2]int{10, 0}, [2]int{30, 20}); e != api.OK {
		t.Errorf("Same for 100: error %d", e)
	}
	if _, e := pell.Same(2, -100, [2]int{10, 10}, [2]int{-10, 10}); e != api.OK {
		t.Errorf("Same for -100: error %d", e)
	}
}

// P1.1: an index that is not valid comes before ErrSize.
func TestConvergentTakesNoOtherIndex(t *testing.T) {
	for _, k := range []int{-1, 21, 22, 100, 1 << 32, 1<<32 + 3, math.MaxInt, math.MinInt} {
		for _, d := range []int{2, 7, 82} {
			p, q, e := pell.Convergent(d, k)
			refused(t, e, p == 0 && q == 0, "Convergent", d, k)
		}
	}
}

// P1.3
func TestSolveTakesNoOtherMost(t *testing.T) {
	for _, most := range []int{-1, -2, 5001, 10_000, 1 << 32, math.MaxInt, math.MinInt} {
		list, e := pell.Solve(2, 7, most)
		refused(t, e, len(list) == 0, "Solve", 2, 7, most)
	}
}

// P1.5: pairs outside of the limits, pairs that are no solutions, and pairs
// that would be solutions if numbers wrapped around; as a, as b, and as both.
func TestSameTakesSolutionsAlone(t *testing.T) {
	for _, c := range []struct {
		d, n int
		good [2]int
		bad  [2]int
	}{
		{2, 1, [2]int{3, 2}, [2]int{665857, 470832}},
		{2, 1, [2]int{3, 2}, [2]int{-665857, -470832}},
		{15, 61, [2]int{11, 2}, [2]int{387461, 100042}},
		{15, 61, [2]int{11, 2}, [2]int{387461, -100042}},
		{82, -18, [2]int{8, 1}, [2]int{906272, 100081}},
		{99, 1, [2]int{10, 1}, [2]int{1580050, 158799}},
		{2, 7, [2]int{3, 1}, [2]int{3, 2}},
		{2, 7, [2]int{3, 1}, [2]int{0, 0}},
		{2, 7, [2]int{3, 1}, [2]int{1, 2}},
		{2, 7, [2]int{3, 1}, [2]int{1, 3}},
		{2, 1, [2]int{1, 0}, [2]int{math.MaxInt, 0}},
		{2, 1, [2]int{1, 0}, [2]int{math.MinInt + 1, 0}},
		{2, 1, [2]int{1, 0}, [2]int{1, math.MinInt}},
		{2, 1, [2]int{1, 0}, [2]int{1, 1 << 32}},
		{2, 1, [2]int{1, 0}, [2]int{1<<32 + 1, 1 << 32}},
		{2, 4, [2]int{2, 0}, [2]int{2, math.MinInt}},
		{2, 4, [2]int{2, 0}, [2]int{math.MinInt + 2, 0}},
	} {
		if !forSame(c.good) || c.good[0]*c.good[0]-c.d*c.good[1]*c.good[1] != c.n {
			t.Fatalf("%v is no solution for %d and %d", c.good, c.d, c.n)
		}
		for _, pair := range [][2][2]int{{c.good, c.bad}, {c.bad, c.good}, {c.bad, c.bad}} {
			same, e := pell.Same(c.d, c.n, pair[0], pair[1])
			refused(t, e, !same, "Same", c.d, c.n, pair)
		}
	}
}

// P1.7
func TestBestTakesNoOtherMost(t *testing.T) {
	for _, most := range []int{0, -1, 1001, 5000, 1 << 32, 1<<32 + 1, math.MaxInt, math.MinInt} {
		p, q, e := pell.Best(2, most)
		refused(t, e, p == 0 && q == 0, "Best", 2, most)
	}
}

// Rule 4: who changes a result changes no later one.
func TestResultsAreNew(t *testing.T) {
	expansion, _ := pell.Expand(7)
	solutions, _ := pell.Solve(2, 7, 20)
	classes, _ := pell.Classes(2, 7)
	if len(expansion) == 0 || len(solutions) == 0 || len(classes) == 0 {
		t.Fatal("there are no results")
	}
	expansion[0], solutions[0], classes[0] = 99, [2]int{99, 99}, [2]int{99, 99}
	if list := mustExpand(t, 7); list[0] != 2 {
		t.Errorf("Expand(7) begins with %d", list[0])
	}
	if list := mustSolve(t, 2, 7, 20); len(list) != 4 || list[0] != [2]int{3, 1} {
		t.Errorf("Solve(2, 7, 20): %v", list)
	}
	if list := mustClasses(t, 2, 7); len(list) != 2 || list[0] != [2]int{-3, 1} {
		t.Errorf("Classes(2, 7): %v", list)
	}
}
