package lattice_test

import (
	"math"
	"slices"
	"testing"

	"gherkin/api"
	"gherkin/lattice"
)

// wrong returns numbers of any size and sign that are not from low to high, also
// some that would be with fewer bits.
func wrong(low, high int) []int {
	return []int{
		low - 1, low - 2, low - 100_000, high + 1, high + 2, high + 100_000, 1<<40 + high, 1<<48 + low, 1 << 32, 1<<32 + 1,
		1<<62 + low, 1<<62 + high, -1<<48 + high, -1<<62 + low, math.MaxInt, math.MinInt, math.MinInt + high, math.MaxInt - high,
	}
}

// unitRows returns the basis of all whole vectors of n numbers.
func unitRows(n int) [][]int {
	rows := make([][]int, n)
	for i := range rows {
		rows[i] = make([]int, n)
		rows[i][i] = 1
	}
	return rows
}

// noBases returns rows that are no basis.
func noBases() [][][]int {
	list := [][][]int{
		nil, {}, {nil}, {{}}, {{0}}, {{1, 0}}, {{1}, {1}}, {{1}, {}}, {{}, {1}}, {{1, 0}, nil}, {{1, 0}, {1}}, {{1}, {0, 1}}, {{1, 0}, {0, 1, 0}}, {{1, 0, 0}, {0, 1}},
		{{1, 0, 0}, {0, 1, 0}}, {{1, 0}, {0, 1}, {1, 1}}, {{1, 0}, {0, 1}, {}}, {{1, 0, 0, 0}, {0, 1, 0, 0}, {0, 0, 1, 0}, {0, 0, 0, 1}, {1, 1, 1, 1}}, {{1, 0, 0, 0}, {0, 1, 0, 0}, {0, 0, 1, 0}, {0, 0, 0}}, {{1, 0, 0, 0}, {0, 1, 0, 0}, {0, 0, 1, 0}, {0, 0, 0, 1, 0}},
		{{0, 0}, {0, 0}}, {{1, 2}, {2, 4}}, {{1, 2}, {0, 0}}, {{0, 1}, {0, 2}}, {{20, 20}, {-20, -20}}, {{1, 2, 3}, {4, 5, 6}, {7, 8, 9}}, {{1, 1, 1, 1}, {1, -1, 1, -1}, {1, 0, 1, 0}, {0, 0, 0, 1}}, {{20, 20, 20, 20}, {20, 20, 20, 20}, {1, 0, 0, 0}, {0, 1, 0, 0}}, {{1, 0, 0, 0}, {0, 1, 0, 0}, {0, 0, 1, 0}, {0, 0, 0, 0}},
		unitRows(5), unitRows(100), slices.Repeat([][]int{{1}}, 5000), {slices.Repeat([]int{1}, 5000)}, {make([]int, 4), make([]int, 4), make([]int, 4), make([]int, 4)},
	}
	for _, x := range wrong(-20, 20) {
		for n := 1; n <= api.MaxRows; n++ {
			for i := range n * n {
				b := unitRows(n)
				b[i/n][i%n] = x
				list = append(list, b)
			}
		}
		list = append(list, [][]int{{x, x}, {x, -x}})
	}
	return list
}

// refused checks that there is no value together with ErrArg.
func refused(t *testing.T, e api.Errno, noValue bool, call string, arguments ...any) {
	t.Helper()
	if e != api.ErrArg || !noValue {
		t.Errorf("%s of %v: error %d, no value: %t; not ErrArg without a value", call, arguments, e, noValue)
	}
}

// P7.1 to P7.9
func TestNoFunctionTakesAnotherBasis(t *testing.T) {
	for _, b := range noBases() {
		det, e := lattice.Det(b)
		refused(t, e, det == 0, "Det", b)
		rows, e := lattice.Normal(b)
		refused(t, e, len(rows) == 0, "Normal", b)
		heights, e := lattice.Heights(b)
		refused(t, e, len(heights) == 0, "Heights", b)
		ok, e := lattice.Reduced(b)
		refused(t, e, !ok, "Reduced", b)
		rows, e = lattice.Reduce(b)
		refused(t, e, len(rows) == 0, "Reduce", b)
		list, e := lattice.Shortest(b)
		refused(t, e, len(list) == 0, "Shortest", b)
		list, e = lattice.Minima(b)
		refused(t, e, len(list) == 0, "Minima", b)
		rows, e = lattice.Dual(b)
		refused(t, e, len(rows) == 0, "Dual", b)
		bound, e := lattice.Bound(b)
		refused(t, e, bound == api.Frac{}, "Bound", b)
		for _, most := range []int{0, 5, 60, -1, 61} {
			list, e = lattice.Theta(b, most)
			refused(t, e, len(list) == 0, "Theta", b, most)
		}
		for n := range 6 {
			v := make([]int, n)
			list, e = lattice.Has(b, v)
			refused(t, e, len(list) == 0, "Has", b, v)
			list, e = lattice.Closest(b, v)
			refused(t, e, len(list) == 0, "Closest", b, v)
			for _, c := range [][][]int{unitRows(n), b} {
				ok, e = lattice.Same(b, c)
				refused(t, e, !ok, "Same", b, c)
				ok, e = lattice.Same(c, b)
				refused(t, e, !ok, "Same", c, b)
			}
		}
	}
}

// P7.1
func TestSameTakesNoOtherNumberOfRows(t *testing.T) {
	for n := 1; n <= api.MaxRows; n++ {
		for m := 1; m <= api.MaxRows; m++ {
			if m == n {
				continue
			}
			ok, e := lattice.Same(unitRows(n), unitRows(m))
			refused(t, e, !ok, "Same", n, m)
		}
	}
}

// P7.2, P7.6
func TestHasAndClosestTakeNoOtherVector(t *testing.T) {
	for n := 1; n <= api.MaxRows; n++ {
		b := unitRows(n)
		for _, length := range []int{0, 1, 2, 3, 4, 5, 100} {
			if length == n {
				continue
			}
			v := make([]int, length)
			list, e := lattice.Has(b, v)
			refused(t, e, len(list) == 0, "Has", b, v)
			list, e = lattice.Closest(b, v)
			refused(t, e, len(list) == 0, "Closest", b, v)
		}
		for i := range n {
			// Most of the vectors are not in the lattice either.
			b[i][i] = 20
			for _, x := range wrong(-10_000, 10_000) {
				v := make([]int, n)
				v[i] = x
				list, e := lattice.Has(b, v)
				refused(t, e, len(list) == 0, "Has", b, v)
			}
			for _, x := range wrong(-100, 100) {
				to := make([]int, n)
				to[i] = x
				list, e := lattice.Closest(b, to)
				refused(t, e, len(list) == 0, "Closest", b, to)
			}
		}
	}
}

// P7.7
func TestThetaTakesNoOtherNorm(t *testing.T) {
	for _, most := range append(wrong(0, 60), 61, 100) {
		for _, b := range someBases()[:40] {
			list, e := lattice.Theta(b, most)
			refused(t, e, len(list) == 0, "Theta", b, most)
		}
	}
}

// P7.2, P7.6, P7.7: the arguments at the ends are taken.
func TestArgumentsAtTheEnds(t *testing.T) {
	for n := 1; n <= api.MaxRows; n++ {
		for _, x := range []int{-10_000, 10_000} {
			v := slices.Repeat([]int{x}, n)
			list, e := lattice.Has(unitRows(n), v)
			are(t, list, e, v, "Has", n, v)
		}
		for _, x := range []int{-100, 100} {
			v := slices.Repeat([]int{x}, n)
			are(t, mustClosest(t, unitRows(n), v), api.OK, v, "Closest", n, v)
		}
		are(t, mustTheta(t, unitRows(n), 0), api.OK, []int{1}, "Theta", n, 0)
		if list := mustTheta(t, unitRows(n), 60); len(list) != 61 {
			t.Errorf("Theta up to 60: %v", list)
		}
	}
}

// spoiled calls f, writes over its result, and calls it again: the second result
// must be as the first one was.
func spoiled[T comparable](t *testing.T, name string, f func() ([]T, api.Errno)) {
	t.Helper()
	result, e := f()
	want := slices.Clone(result)
	var none T
	for i := range result {
		result[i] = none
	}
	_ = append(result, none)
	again, e2 := f()
	if e != api.OK || e2 != api.OK || !slices.Equal(again, want) || len(want) == 0 {
		t.Errorf("%s: %v, and later %v; errors %d and %d", name, want, again, e, e2)
	}
}

// spoiledRows does the same with rows, none of which may lie behind another one.
func spoiledRows(t *testing.T, name string, f func() ([][]int, api.Errno)) {
	t.Helper()
	result, e := f()
	var want [][]int
	for _, row := range result {
		want = append(want, slices.Clone(row))
	}
	for _, row := range result {
		_ = append(row, 77, 77, 77, 77, 77)
	}
	if !equalRows(result, want) {
		t.Errorf("%s: the rows %v share memory", name, want)
	}
	for i, row := range result {
		for j := range row {
			row[j] = 99
		}
		result[i] = nil
	}
	again, e2 := f()
	if e != api.OK || e2 != api.OK || !equalRows(again, want) || len(want) == 0 {
		t.Errorf("%s: %v, and later %v; errors %d and %d", name, want, again, e, e2)
	}
}

// Rule 4: no argument, nor what lies behind it, is changed, and who changes a
// result changes neither an argument nor a later result.
func TestResultsAreNew(t *testing.T) {
	// The second basis is in normal form, and reduced already.
	for _, behind := range [][]int{{17, 1, 0, -13, 19, 1, 1, 0, 0, 99, 99}, {1, 0, 0, 0, 1, 0, 0, 0, 1, 99, 99}} {
		want := slices.Clone(behind)
		b := [][]int{behind[:3], behind[3:6], behind[6:9]}
		rows := slices.Clone(b)
		v := []int{5, 2, -3, 99}
		spoiledRows(t, "Normal", func() ([][]int, api.Errno) { return lattice.Normal(b) })
		spoiledRows(t, "Reduce", func() ([][]int, api.Errno) { return lattice.Reduce(b) })
		spoiledRows(t, "Dual", func() ([][]int, api.Errno) { return lattice.Dual(b) })
		spoiled(t, "Has", func() ([]int, api.Errno) { return lattice.Has(b, v[:3]) })
		spoiled(t, "Heights", func() ([]api.Frac, api.Errno) { return lattice.Heights(b) })
		spoiled(t, "Shortest", func() ([]int, api.Errno) { return lattice.Shortest(b) })
		spoiled(t, "Minima", func() ([]int, api.Errno) { return lattice.Minima(b) })
		spoiled(t, "Closest", func() ([]int, api.Errno) { return lattice.Closest(b, v[:3]) })
		spoiled(t, "Theta", func() ([]int, api.Errno) { return lattice.Theta(b, 9) })
		lattice.Det(b)
		lattice.Same(b, b)
		lattice.Reduced(b)
		lattice.Bound(b)
		if !slices.Equal(behind, want) || !equalRows(b, rows) || !slices.Equal(v, []int{5, 2, -3, 99}) {
			t.Errorf("the arguments became %v, %v and %v", b, behind, v)
		}
	}
}

// Rule 4: rows of an argument may share memory.
func TestRowsThatShareMemory(t *testing.T) {
	shared := []int{1, 0, 3}
	b := [][]int{shared[:2], shared[1:]}
	if rows := mustNormal(t, b); !equalRows(rows, [][]int{{1, 0}, {0, 3}}) {
		t.Errorf("Normal(%v): %v", b, rows)
	}
	if rows := mustReduce(t, b); !isReduced(rows) || !sameLattice(rows, [][]int{{1, 0}, {0, 3}}) {
		t.Errorf("Reduce(%v): %v", b, rows)
	}
	if !slices.Equal(shared, []int{1, 0, 3}) {
		t.Errorf("the argument became %v", shared)
	}
}
