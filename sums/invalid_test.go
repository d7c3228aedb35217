package sums_test

import (
	"math"
	"slices"
	"testing"

	"gherkin/api"
	"gherkin/sums"
)

// wrong returns numbers of any size and sign that are not from low to high, also
// some that would be with fewer bits.
func wrong(low, high int) []int {
	return []int{
		low - 1, low - 2, low - 100_000, high + 1, high + 2, high + 100_000, 1<<40 + high, 1<<48 + low, 1<<32 + low, 1<<32 + high,
		1<<62 + low, 1<<62 + high, -1<<48 + high, -1<<62 + low, math.MaxInt, math.MinInt, math.MinInt + high, math.MaxInt - high,
	}
}

// refused checks that there is no value together with ErrArg.
func refused(t *testing.T, e api.Errno, noValue bool, call string, arguments ...any) {
	t.Helper()
	if e != api.ErrArg || !noValue {
		t.Errorf("%s of %v: error %d, no value: %t; not ErrArg without a value", call, arguments, e, noValue)
	}
}

// P8.1
func TestCyclotomicTakesNoOtherNumber(t *testing.T) {
	for _, n := range append(wrong(1, 60), 64, 72, 100) {
		c, e := sums.Cyclotomic(n)
		refused(t, e, len(c) == 0, "Cyclotomic", n)
	}
}

// noNumbers returns slices that are no numbers of order n with elements from -most
// to most.
func noNumbers(n, most int) [][]int {
	f := width(n)
	list := [][]int{nil, {}, make([]int, f-1), make([]int, f+1), make([]int, f+2), make([]int, 2*f), make([]int, f+api.MaxRoot), make([]int, 5000)}
	for _, x := range wrong(-most, most) {
		for k := range f {
			a := make([]int, f)
			a[k] = x
			list = append(list, a)
		}
		list = append(list, slices.Repeat([]int{x}, f))
	}
	return list
}

// refusedNumbers checks that no function of numbers takes n with a and b.
func refusedNumbers(t *testing.T, n int, a, b []int) {
	t.Helper()
	c, e := sums.Add(n, a, b)
	refused(t, e, len(c) == 0, "Add", n, a, b)
	c, e = sums.Times(n, a, b)
	refused(t, e, len(c) == 0, "Times", n, a, b)
}

// refusedNumber checks that no function of one number takes n with a.
func refusedNumber(t *testing.T, n int, a []int) {
	t.Helper()
	for _, by := range []int{1, 2, 7, n - 1, n, 0, -1} {
		c, e := sums.Turn(n, a, by)
		refused(t, e, len(c) == 0, "Turn", n, a, by)
	}
	x, e := sums.Norm(n, a)
	refused(t, e, x == 0, "Norm", n, a)
	x, e = sums.Trace(n, a)
	refused(t, e, x == 0, "Trace", n, a)
}

// P8.2, P8.3
func TestNoFunctionTakesAnotherNumber(t *testing.T) {
	for n := 1; n <= api.MaxRoot; n++ {
		for _, a := range noNumbers(n, 1000) {
			refusedNumbers(t, n, a, one(n))
			refusedNumbers(t, n, one(n), a)
			refusedNumbers(t, n, a, a)
			refusedNumber(t, n, a)
		}
	}
}

// P8.2, P8.3
func TestNoFunctionTakesAnotherOrder(t *testing.T) {
	for _, n := range append(wrong(1, api.MaxRoot), 16, 17, 18, 20, 24, 30, 60) {
		for length := range 20 {
			a := make([]int, length)
			refusedNumbers(t, n, a, a)
			refusedNumber(t, n, a)
		}
	}
}

// P8.2
func TestTurnTakesNoOtherTurn(t *testing.T) {
	for n := 1; n <= api.MaxRoot; n++ {
		for _, by := range append(wrong(1, n), 0, -1, 2*n+1, 1-n, n*n+1) {
			c, e := sums.Turn(n, one(n), by)
			refused(t, e, len(c) == 0, "Turn", n, by)
		}
		for by := 1; by <= n; by++ {
			c, e := sums.Turn(n, one(n), by)
			if divisor(by, n) > 1 {
				refused(t, e, len(c) == 0, "Turn", n, by)
			} else {
				is(t, c, e, one(n), "Turn", n, by)
			}
		}
	}
}

// P8.3: Norm alone takes small elements alone.
func TestNormTakesNoOtherElements(t *testing.T) {
	for n := 1; n <= api.MaxRoot; n++ {
		for _, x := range append(wrong(-2, 2), 3, -3, 4, 5, 10, 1000, -1000) {
			for k := range width(n) {
				a := make([]int, width(n))
				a[k] = x
				norm, e := sums.Norm(n, a)
				refused(t, e, norm == 0, "Norm", n, a)
			}
		}
	}
}

// P8.2, P8.3: the elements at the ends are taken.
func TestElementsAtTheEnds(t *testing.T) {
	for n := 1; n <= api.MaxRoot; n++ {
		for _, x := range []int{1000, -1000} {
			a := slices.Repeat([]int{x}, width(n))
			is(t, mustAdd(t, n, a, a), api.OK, slices.Repeat([]int{2 * x}, width(n)), "Add", n, a, a)
			mustTimes(t, n, a, a)
			mustTurn(t, n, a, 1)
			mustTrace(t, n, a)
		}
		for _, x := range []int{2, -2} {
			mustNorm(t, n, slices.Repeat([]int{x}, width(n)))
		}
	}
}

// P8.4
func TestNoFunctionTakesAnotherSymbol(t *testing.T) {
	const most = 1_000_000_000
	var list []pair
	for _, n := range []int{1, 3, 7, most - 1, 0, 2} {
		for _, a := range wrong(-most, most) {
			list = append(list, pair{a, n})
		}
	}
	for _, n := range append(wrong(1, most), 0, 2, 4, 6, 8, 100, most, -1, -3, -7, -most, -most+1, most+1, most+3) {
		for _, a := range []int{0, 1, -1, 2, 3, most, -most, most + 1, n} {
			list = append(list, pair{a, n})
		}
	}
	for _, x := range list {
		s, e := sums.Jacobi(x.a, x.n)
		refused(t, e, s == 0, "Jacobi", x)
		l, e := sums.Chain(x.a, x.n)
		refused(t, e, len(l) == 0, "Chain", x)
		for _, l := range [][]sums.Step{nil, {}, {{}}, {{Kind: 0, A: 0, N: 1, Sign: 1}}, {{Kind: 2, A: x.n, N: 1, Sign: 1}}} {
			s, ok, e := sums.CheckChain(x.a, x.n, l)
			refused(t, e, s == 0 && !ok, "CheckChain", x, l)
		}
	}
}

// P8.5
func TestGaussTakesNoOtherPrime(t *testing.T) {
	for p := -20; p <= 40; p++ {
		if slices.Contains(gaussPrimes, p) {
			continue
		}
		a, e := sums.Gauss(p)
		refused(t, e, len(a) == 0, "Gauss", p)
	}
	for _, p := range append(wrong(3, 13), 10_007, 999_999_937) {
		a, e := sums.Gauss(p)
		refused(t, e, len(a) == 0, "Gauss", p)
	}
}

// P8.6
func TestTurnsTakesNoOtherNumbers(t *testing.T) {
	for n := 1; n <= 200; n++ {
		for a := -n; a <= 2*n; a++ {
			if a >= 0 && a < n && divisor(a, n) == 1 {
				continue
			}
			s, e := sums.Turns(a, n)
			refused(t, e, s == 0, "Turns", a, n)
		}
		for _, a := range append(wrong(0, n-1), -n, n, n+1, 1+n*n) {
			s, e := sums.Turns(a, n)
			refused(t, e, s == 0, "Turns", a, n)
		}
	}
	for _, n := range append(wrong(1, 200), 0, -1, 201, 211) {
		for _, a := range []int{0, 1, 2, 3, -1, n - 1, n, n + 1, math.MinInt} {
			s, e := sums.Turns(a, n)
			refused(t, e, s == 0, "Turns", a, n)
		}
	}
}

// P8.7
func TestPointsTakesNoOtherPrimes(t *testing.T) {
	no := append(wrong(3, 199), 211, 223, 0, 1, -3, -5, -7)
	for n := 2; n <= 220; n++ {
		if n == 2 || !isPrime(n) || n > 200 {
			no = append(no, n)
		}
	}
	for _, p := range no {
		for _, q := range []int{3, 5, 199, p, p + 2, 9} {
			n, e := sums.Points(p, q)
			refused(t, e, n == 0, "Points", p, q)
			n, e = sums.Points(q, p)
			refused(t, e, n == 0, "Points", q, p)
		}
	}
	for _, p := range oddPrimes(200) {
		n, e := sums.Points(p, p)
		refused(t, e, n == 0, "Points", p, p)
	}
}

// P8.8
func TestRootAndLeastTakeNoOtherPrime(t *testing.T) {
	no := append(wrong(3, 9973), 0, -1, -3, -7, 10_007, 10_009, 99_991, 2_147_483_647, 999_999_937)
	for n := 1; n <= 10_020; n++ {
		if n == 2 || !isPrime(n) || n > 10_000 {
			no = append(no, n)
		}
	}
	for _, p := range no {
		for _, a := range []int{0, 1, -1, 4, p - 1, p, math.MinInt} {
			x, e := sums.Root(a, p)
			refused(t, e, x == 0, "Root", a, p)
		}
		n, e := sums.Least(p)
		refused(t, e, n == 0, "Least", p)
	}
}

// P8.8
func TestRootTakesNoOtherNumber(t *testing.T) {
	for _, p := range []int{3, 5, 7, 17, 101, 9973} {
		for _, a := range append(wrong(0, p-1), p, p+1, p+4, -p, 1-p, p*p) {
			x, e := sums.Root(a, p)
			refused(t, e, x == 0, "Root", a, p)
		}
	}
}

// spoiled calls f, writes over its result, and calls it again: the second result
// must be as the first one was.
func spoiled[T comparable](t *testing.T, name string, f func() ([]T, api.Errno)) {
	t.Helper()
	result, e := f()
	want := slices.Clone(result)
	var none T
	for i := range result {
		result[i] = none
	}
	_ = append(result, none)
	again, e2 := f()
	if e != api.OK || e2 != api.OK || !slices.Equal(again, want) || len(want) == 0 {
		t.Errorf("%s: %v, and later %v; errors %d and %d", name, want, again, e, e2)
	}
}

// Rule 4: no argument, nor what lies behind it, is changed, and who changes a
// result changes neither an argument nor a later result.
func TestResultsAreNew(t *testing.T) {
	behind := []int{1, -2, 2, 1, 99, 99}
	a, b := behind[:4], []int{2, 0, 1, -1, 99}
	for _, n := range []int{5, 8, 10, 12} {
		spoiled(t, "Add", func() ([]int, api.Errno) { return sums.Add(n, a, b[:4]) })
		spoiled(t, "Add", func() ([]int, api.Errno) { return sums.Add(n, a, a) })
		spoiled(t, "Times", func() ([]int, api.Errno) { return sums.Times(n, a, b[:4]) })
		spoiled(t, "Times", func() ([]int, api.Errno) { return sums.Times(n, a, a) })
		spoiled(t, "Turn", func() ([]int, api.Errno) { return sums.Turn(n, a, 1) })
		sums.Norm(n, a)
		sums.Trace(n, a)
	}
	// The only elements of these are whole numbers.
	for _, n := range []int{1, 2} {
		spoiled(t, "Times", func() ([]int, api.Errno) { return sums.Times(n, a[:1], a[:1]) })
		spoiled(t, "Turn", func() ([]int, api.Errno) { return sums.Turn(n, a[:1], 1) })
		sums.Norm(n, a[:1])
	}
	spoiled(t, "Cyclotomic", func() ([]int, api.Errno) { return sums.Cyclotomic(12) })
	spoiled(t, "Gauss", func() ([]int, api.Errno) { return sums.Gauss(7) })
	spoiled(t, "Chain", func() ([]sums.Step, api.Errno) { return sums.Chain(19, 45) })
	if !slices.Equal(behind, []int{1, -2, 2, 1, 99, 99}) || !slices.Equal(b, []int{2, 0, 1, -1, 99}) {
		t.Errorf("the arguments became %v and %v", behind, b)
	}
	l := mustChain(t, 19, 45)
	want := slices.Clone(l)
	sums.CheckChain(19, 45, l)
	if !slices.Equal(l, want) {
		t.Errorf("the chain became %v", l)
	}
}
