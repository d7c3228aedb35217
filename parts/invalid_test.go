package parts_test

import (
	"math"
	"slices"
	"testing"

	"gherkin/api"
	"gherkin/parts"
)

// noPartitions returns slices of numbers of any size and sign that are no
// partitions, also some that would be with fewer bits or if their sum wrapped
// around.
func noPartitions() [][]int {
	return [][]int{
		{0}, {0, 0, 0}, {-1}, {-5}, {3, 0}, {3, 1, 0}, {3, 0, 1}, {0, 1}, {3, -1}, {5, 3, -2}, {-1, -2}, {-1, -1},
		{1, 2}, {5, 6, 1}, {5, 3, 4}, {3, 1, 2}, {3, 1, 1, 2}, {1, 3}, {1, 1, 3}, {2, 30},
		{31}, {30, 1}, {16, 15}, {11, 10, 10}, {9, 8, 7, 6, 5}, {10, 9, 8, 7, 6}, {100, 1}, {33}, {17, 15, 5},
		slices.Repeat([]int{1}, 31), slices.Repeat([]int{1}, 1000), slices.Repeat([]int{3}, 11), slices.Repeat([]int{5}, 7),
		{1<<32 + 3}, {1<<32 + 3, 1<<32 + 1}, {1 << 32, 1}, {1<<32 + 5, 3, 1}, {5, 3, 1 << 32}, {256 + 5}, {256 + 5, 3},
		{-1<<32 + 5}, {1<<62 + 1, 1}, {math.MinInt + 7}, {math.MinInt}, {math.MaxInt}, {math.MaxInt, 1},
		{math.MaxInt, math.MaxInt, 3}, {math.MaxInt, math.MaxInt, 7, 3, 1}, {math.MaxInt, math.MaxInt - 2, 9, 5, 1},
		{math.MaxInt, math.MinInt, 7}, {math.MinInt, math.MinInt, 3}, {math.MaxInt, math.MinInt},
		{1 << 62, 1 << 62, 1 << 62, 1 << 62}, {1<<62 + 1, 1<<62 - 1, 1<<62 - 3, 1<<62 - 5, 9}, {5, math.MinInt, math.MinInt},
		{math.MaxInt, 5, 3, 1, math.MinInt}, slices.Repeat([]int{1 << 60}, 16), append(slices.Repeat([]int{1 << 60}, 16), 1),
	}
}

// wrong returns numbers of any size and sign that are not from low to high,
// also some that would be with fewer bits.
func wrong(low, high int) []int {
	return []int{
		low - 1, low - 2, low - 100, high + 1, high + 2, high + 100, 512 + low, 1<<16 + high, 1<<31 + low,
		1<<32 + low, 1<<32 + high, -1<<32 + high, 1<<62 + low, math.MaxInt, math.MinInt, math.MinInt + high, math.MaxInt - low,
	}
}

// refused checks that there is no value together with ErrArg.
func refused(t *testing.T, e api.Errno, noValue bool, call string, arguments ...any) {
	t.Helper()
	if e != api.ErrArg || !noValue {
		t.Errorf("%s of %v: error %d, no value: %t; not ErrArg without a value", call, arguments, e, noValue)
	}
}

// P2.1
func TestListAndCountTakeNoOtherN(t *testing.T) {
	for _, n := range wrong(0, 20) {
		l, e := parts.List(n)
		refused(t, e, len(l) == 0, "List", n)
	}
	for _, n := range wrong(0, 400) {
		count, e := parts.Count(n)
		refused(t, e, count == 0, "Count", n)
	}
}

// P2.2 to P2.4, P2.6, P2.7
func TestNoFunctionTakesAnotherList(t *testing.T) {
	for _, l := range noPartitions() {
		for name, x := range lists() {
			result, e := x.f(l)
			refused(t, e, len(result) == 0, name, l)
		}
		for name, f := range numberFunctions() {
			result, e := f(l)
			refused(t, e, result == 0, name, l)
		}
		rows, e := parts.Hooks(l)
		refused(t, e, len(rows) == 0, "Hooks", l)
		for p := 1; p <= 10; p++ {
			core, e := parts.Core(l, p)
			refused(t, e, len(core) == 0, "Core", l, p)
			all, e := parts.Rims(l, p)
			refused(t, e, len(all) == 0, "Rims", l, p)
		}
	}
}

// P2.3, P2.4: partitions, but not of the kind that the function takes.
func TestNoFunctionTakesAnotherKind(t *testing.T) {
	count := 0
	for _, l := range upTo(most) {
		for name, x := range lists() {
			if x.takes(l) {
				continue
			}
			count++
			result, e := x.f(l)
			refused(t, e, len(result) == 0, name, l)
		}
	}
	if count < 20000 {
		t.Errorf("only %d calls were looked at", count)
	}
	for _, l := range [][]int{nil, {}, {1, 1}, {4, 4}, {3, 2, 2}, {2, 2, 1}, {5, 4, 4}, {15, 15}} {
		result, e := parts.Franklin(l)
		refused(t, e, len(result) == 0, "Franklin", l)
	}
	for _, l := range [][]int{{2}, {3, 2, 1}, {2, 1}, {30}, {5, 4}} {
		result, e := parts.Glaisher(l)
		refused(t, e, len(result) == 0, "Glaisher", l)
	}
	for _, l := range [][]int{{1, 1}, {3, 3, 1}, {2, 2}, {15, 15}, {5, 1, 1}} {
		result, e := parts.Odds(l)
		refused(t, e, len(result) == 0, "Odds", l)
	}
}

// P2.5, P2.8
func TestKindsAndPentagonalTakeNoOtherNumber(t *testing.T) {
	for _, n := range wrong(0, 100) {
		for kind := range 6 {
			count, e := parts.Kinds(n, kind)
			refused(t, e, count == 0, "Kinds", n, kind)
		}
		for _, kind := range wrong(0, 5) {
			count, e := parts.Kinds(n, kind)
			refused(t, e, count == 0, "Kinds", n, kind)
		}
		x, e := parts.Pentagonal(n)
		refused(t, e, x == 0, "Pentagonal", n)
	}
	for _, n := range []int{0, 1, 10, 100} {
		for _, kind := range wrong(0, 5) {
			count, e := parts.Kinds(n, kind)
			refused(t, e, count == 0, "Kinds", n, kind)
		}
	}
}

// P2.6
func TestFillingsTakesNoSumAbove20(t *testing.T) {
	for n := 21; n <= most; n++ {
		for _, l := range tables()[n] {
			count, e := parts.Fillings(l)
			refused(t, e, count == 0, "Fillings", l)
		}
	}
}

// P2.7
func TestCoreAndRimsTakeNoOtherLength(t *testing.T) {
	for _, p := range wrong(1, 10) {
		for _, l := range [][]int{nil, {1}, {3, 1}, {11}, {12, 11}, {5, 3, 1}, {30}, {0}, {1, 2}, {31}} {
			core, e := parts.Core(l, p)
			refused(t, e, len(core) == 0, "Core", l, p)
			all, e := parts.Rims(l, p)
			refused(t, e, len(all) == 0, "Rims", l, p)
		}
	}
}

// Rule 4: a function changes neither its argument nor what lies behind it, and
// who changes a result changes neither the argument nor a later result.
func TestListsAreNew(t *testing.T) {
	for _, l := range upTo(16) {
		for name, x := range lists() {
			if !x.takes(l) {
				continue
			}
			array := append(slices.Clone(l), 99, 99, 99, 99)
			result, e := x.f(array[:len(l)])
			if e != api.OK {
				continue
			}
			want := slices.Clone(result)
			for i := range result {
				result[i] = 77
			}
			_ = append(result, 77)
			if !slices.Equal(array, append(slices.Clone(l), 99, 99, 99, 99)) {
				t.Errorf("%s changed its argument %v to %v", name, l, array)
			}
			if again := mustList(t, x.f, l); !slices.Equal(again, want) {
				t.Errorf("%s of %v: %v, and later %v", name, l, want, again)
			}
		}
	}
}

// Rule 4: so it is with the functions that return lists of slices, whose
// slices do not reach into each other.
func TestListsOfListsAreNew(t *testing.T) {
	for _, l := range upTo(12) {
		array := append(slices.Clone(l), 99, 99, 99, 99)
		argument := array[:len(l)]
		calls := map[string]func() ([][]int, api.Errno){
			"List":  func() ([][]int, api.Errno) { return parts.List(len(l)) },
			"Hooks": func() ([][]int, api.Errno) { return parts.Hooks(argument) },
		}
		for p := 1; p <= 3; p++ {
			calls["Rims for "+string(rune('0'+p))] = func() ([][]int, api.Errno) { return parts.Rims(argument, p) }
		}
		for name, f := range calls {
			result, e := f()
			var want [][]int
			for _, inner := range result {
				want = append(want, slices.Clone(inner))
			}
			for i := range result {
				_ = append(result[i], 77, 77, 77)
			}
			if e != api.OK || !same(result, want) {
				t.Errorf("%s for %v: its slices share memory, or error %d", name, l, e)
			}
			for i := range result {
				for j := range result[i] {
					result[i][j] = 77
				}
				result[i] = []int{77}
			}
			if again, e := f(); e != api.OK || !same(again, want) {
				t.Errorf("%s for %v: %v, and later %v, error %d", name, l, want, again, e)
			}
		}
		if !slices.Equal(array, append(slices.Clone(l), 99, 99, 99, 99)) {
			t.Errorf("the argument %v became %v", l, array)
		}
	}
}

// Rule 4: numbers leave their argument as it is.
func TestNumbersLeaveTheirArgument(t *testing.T) {
	for _, l := range upTo(16) {
		for name, f := range numberFunctions() {
			argument := slices.Clone(l)
			mustNumber(t, f, argument)
			if !slices.Equal(argument, l) {
				t.Errorf("%s changed its argument %v to %v", name, l, argument)
			}
		}
	}
}

// Rule 4: a nil slice is an empty one.
func TestNilIsTheEmptyPartition(t *testing.T) {
	for _, l := range [][]int{nil, {}} {
		for name, x := range lists() {
			if !x.takes(l) {
				continue
			}
			if result, e := x.f(l); e != api.OK || len(result) != 0 {
				t.Errorf("%s of %#v: %v, error %d", name, l, result, e)
			}
		}
		for name, f := range numberFunctions() {
			want := 0
			if name == "Fillings" {
				want = 1
			}
			if n, e := f(l); e != api.OK || n != want {
				t.Errorf("%s of %#v: %d, error %d", name, l, n, e)
			}
		}
		if rows, e := parts.Hooks(l); e != api.OK || len(rows) != 0 {
			t.Errorf("Hooks of %#v: %v, error %d", l, rows, e)
		}
		if all, e := parts.Rims(l, 1); e != api.OK || len(all) != 0 {
			t.Errorf("Rims of %#v: %v, error %d", l, all, e)
		}
	}
}
