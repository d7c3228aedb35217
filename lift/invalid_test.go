package lift_test

import (
	"math"
	"slices"
	"testing"

	"gherkin/api"
	"gherkin/lift"
)

// wrong returns numbers of any size and sign that are not from low to high,
// also some that would be with fewer bits.
func wrong(low, high int) []int {
	return []int{
		low - 1, low - 2, low - 100_000, high + 1, high + 2, high + 100_000, 1<<40 + high, 1<<48 + low,
		1<<62 + low, 1<<62 + high, -1<<48 + high, -1<<62 + low, math.MaxInt, math.MinInt, math.MinInt + high, math.MaxInt - high,
	}
}

// noPrimes returns numbers that are none of the primes.
func noPrimes() []int {
	return append(wrong(2, 13), 0, 1, 4, 6, 8, 9, 10, 12, 14, 15, 16, 17, 19, 23, 25, 141, 19997, -2, -3, -5, -13, 1<<32+2, 1<<32+5)
}

// noModuli returns p and k that are not valid: p is no prime, or k is, for a
// prime, not at least 1, or p^k above 20,000.
func noModuli() []modulus {
	var list []modulus
	for _, p := range noPrimes() {
		for _, k := range []int{1, 2, 0, math.MaxInt, math.MinInt} {
			list = append(list, modulus{p: p, k: k})
		}
	}
	most := map[int]int{2: 14, 3: 9, 5: 6, 7: 5, 11: 4, 13: 3}
	for _, p := range primes {
		for _, k := range append(wrong(1, most[p]), 0, -1, 16, 17, 32, 62, 63, 64, 65, 128, 1<<32+1) {
			list = append(list, modulus{p: p, k: k})
		}
	}
	return list
}

// noPolynomials returns slices that are no polynomials.
func noPolynomials() [][]int {
	list := [][]int{
		nil, {}, {0}, {1}, {-1}, {1000}, {0, 0}, {1, 0}, {1, 1, 0}, {1, 2, 3, 4, 5, 6, 0}, {1, 1, 1, 1, 1, 1, 1, 1}, {0, 0, 0, 0, 0, 0, 0, 1}, {1, 1, 1, 1, 1, 1, 1, 0}, slices.Repeat([]int{1}, 5000), slices.Repeat([]int{0}, 7),
		{math.MinInt, math.MinInt}, {math.MaxInt, math.MaxInt}, {1, 1, 1 << 62, 1},
	}
	for _, c := range wrong(-1000, 1000) {
		list = append(list, []int{c, 1}, []int{1, c}, []int{1, c, 1}, []int{1, 2, 3, 4, 5, 6, c}, []int{c, 2, 3, 4, 5, 6, 7})
	}
	return list
}

// refused checks that there is no value together with ErrArg.
func refused(t *testing.T, e api.Errno, noValue bool, call string, arguments ...any) {
	t.Helper()
	if e != api.ErrArg || !noValue {
		t.Errorf("%s of %v: error %d, no value: %t; not ErrArg without a value", call, arguments, e, noValue)
	}
}

// P6.1, P6.2, P6.6, P6.7
func TestNoFunctionTakesAnotherModulus(t *testing.T) {
	for _, m := range noModuli() {
		for _, f := range [][]int{{0, 1}, {0, 0, 1}, {1, 0, 1}, {1}, nil} {
			l, e := lift.Roots(f, m.p, m.k)
			refused(t, e, len(l) == 0, "Roots", f, m.p, m.k)
			for _, r := range []int{0, 1, -1, m.p} {
				x, e := lift.Lift(f, m.p, m.k, r)
				refused(t, e, x == 0, "Lift", f, m.p, m.k, r)
			}
		}
		for _, n := range []int{0, 1, -1, m.p, 4, math.MaxInt} {
			x, e := lift.Teich(n, m.p, m.k)
			refused(t, e, x == 0, "Teich", n, m.p, m.k)
			l, e := lift.Square(n, m.p, m.k)
			refused(t, e, len(l) == 0, "Square", n, m.p, m.k)
		}
	}
}

// P6.3, P6.4, P6.5
func TestNoFunctionTakesAnotherPrime(t *testing.T) {
	for _, p := range noPrimes() {
		for _, f := range [][]int{{0, 1}, {1, 1}, {4, 2, 1}, {1}, nil} {
			sides, e := lift.Polygon(f, p)
			refused(t, e, len(sides) == 0, "Polygon", f, p)
			slopes, e := lift.Slopes(f, p)
			refused(t, e, len(slopes) == 0, "Slopes", f, p)
			ok, e := lift.Pure(f, p)
			refused(t, e, !ok, "Pure", f, p)
		}
		for _, b := range []int{1, 2, 7, 0, p} {
			l, e := lift.Digits(1, b, p, 3)
			refused(t, e, len(l) == 0, "Digits", 1, b, p, 3)
			from, after, e := lift.Again(1, b, p)
			refused(t, e, from == 0 && after == 0, "Again", 1, b, p)
		}
	}
}

// P6.1, P6.2, P6.3, P6.4, P6.8
func TestNoFunctionTakesAnotherPolynomial(t *testing.T) {
	for _, f := range noPolynomials() {
		for _, p := range append([]int{4}, primes...) {
			for _, k := range []int{1, 2, 3, 0} {
				l, e := lift.Roots(f, p, k)
				refused(t, e, len(l) == 0, "Roots", f, p, k)
				for r := range p {
					x, e := lift.Lift(f, p, k, r)
					refused(t, e, x == 0, "Lift", f, p, k, r)
				}
			}
			sides, e := lift.Polygon(f, p)
			refused(t, e, len(sides) == 0, "Polygon", f, p)
			slopes, e := lift.Slopes(f, p)
			refused(t, e, len(slopes) == 0, "Slopes", f, p)
			ok, e := lift.Pure(f, p)
			refused(t, e, !ok, "Pure", f, p)
		}
		for _, g := range [][]int{{0, 1}, {1, 1}, {0, 0, 1}, nil, {0}, f} {
			l, e := lift.Times(f, g)
			refused(t, e, len(l) == 0, "Times", f, g)
			l, e = lift.Times(g, f)
			refused(t, e, len(l) == 0, "Times", g, f)
		}
	}
}

// P6.2, P6.6
func TestLiftAndTeichTakeNoOtherResidue(t *testing.T) {
	for _, m := range moduli() {
		for _, r := range append(wrong(0, m.p-1), m.p, -m.p, 2*m.p, m.m, m.m-1+m.p, -m.m, 1<<32) {
			// These are roots, also where the derivative is divisible.
			for _, f := range [][]int{{0, 1}, {0, 0, 1}, {0, 1, 1}, {0, -1, 0, 0, 0, 1}} {
				x, e := lift.Lift(f, m.p, m.k, r)
				refused(t, e, x == 0, "Lift", f, m.p, m.k, r)
			}
			x, e := lift.Teich(r, m.p, m.k)
			refused(t, e, x == 0, "Teich", r, m.p, m.k)
		}
	}
}

// P6.5
func TestDigitsTakeNoOtherFraction(t *testing.T) {
	for _, p := range primes {
		list := []fraction{{1, 0}, {0, 0}, {p, p}, {0, p}, {1, p}, {1, p * p}, {-1, 5 * p}, {1, -1}, {-1, -1}, {7, -p}, {math.MinInt, -1}}
		for _, a := range append(wrong(-1000, 1000), 2000, -2000) {
			list = append(list, fraction{a, 1}, fraction{a, 999}, fraction{a, a})
		}
		for _, b := range wrong(1, 1000) {
			list = append(list, fraction{1, b}, fraction{0, b}, fraction{-1000, b})
		}
		for _, x := range list {
			for _, n := range []int{0, 3, 40, -1, 41} {
				l, e := lift.Digits(x.a, x.b, p, n)
				refused(t, e, len(l) == 0, "Digits", x.a, x.b, p, n)
			}
			from, after, e := lift.Again(x.a, x.b, p)
			refused(t, e, from == 0 && after == 0, "Again", x.a, x.b, p)
		}
		for _, n := range wrong(0, 40) {
			l, e := lift.Digits(1, 1, p, n)
			refused(t, e, len(l) == 0, "Digits", 1, 1, p, n)
		}
	}
}

// P6.5: the fractions at the ends are taken.
func TestFractionsAtTheEnds(t *testing.T) {
	for _, p := range primes {
		for _, a := range []int{-1000, 1000, 0, -999} {
			for _, b := range []int{1, 1000, 999} {
				if b%p > 0 {
					mustDigits(t, a, b, p, 0)
					mustDigits(t, a, b, p, 40)
					mustAgain(t, a, b, p)
				}
			}
		}
	}
}

// P6.7
func TestSquareTakesNoOtherNumber(t *testing.T) {
	for _, a := range append(wrong(-1_000_000, 1_000_000), 1_000_001, -1_000_001) {
		for _, m := range moduli() {
			l, e := lift.Square(a, m.p, m.k)
			refused(t, e, len(l) == 0, "Square", a, m.p, m.k)
		}
	}
}

// spoiled calls f, writes over its result, and calls it again: the second
// result must be as the first one was.
func spoiled[T comparable](t *testing.T, name string, f func() ([]T, api.Errno)) {
	t.Helper()
	result, e := f()
	want := slices.Clone(result)
	var none T
	for i := range result {
		result[i] = none
	}
	_ = append(result, none)
	again, e2 := f()
	if e != api.OK || e2 != api.OK || !slices.Equal(again, want) || len(want) == 0 {
		t.Errorf("%s: %v, and later %v; errors %d and %d", name, want, again, e, e2)
	}
}

// Rule 4: no argument, nor what lies behind it, is changed, and who changes a
// result changes neither an argument nor a later result.
func TestResultsAreNew(t *testing.T) {
	behind := []int{1, 0, 1, 99, 99}
	f, g := behind[:3], behind[:2:2]
	g = append(g, 1)
	spoiled(t, "Roots", func() ([]int, api.Errno) { return lift.Roots(f, 5, 2) })
	spoiled(t, "Polygon", func() ([]lift.Side, api.Errno) { return lift.Polygon(f, 5) })
	spoiled(t, "Slopes", func() ([]api.Frac, api.Errno) { return lift.Slopes(f, 5) })
	spoiled(t, "Digits", func() ([]int, api.Errno) { return lift.Digits(1, 3, 2, 6) })
	spoiled(t, "Square", func() ([]int, api.Errno) { return lift.Square(-1, 5, 2) })
	spoiled(t, "Times", func() ([]int, api.Errno) { return lift.Times(f, g) })
	spoiled(t, "Times", func() ([]int, api.Errno) { return lift.Times(f, f) })
	lift.Lift(f, 5, 2, 2)
	lift.Pure(f, 5)
	if !slices.Equal(behind, []int{1, 0, 1, 99, 99}) || !slices.Equal(g, []int{1, 0, 1}) {
		t.Errorf("the arguments became %v and %v", behind, g)
	}
}
