package lift_test

import (
	"slices"
	"testing"

	"gherkin/api"
	"gherkin/lift"
)

// above returns those numbers of the list that are r modulo p.
func above(list []int, r, p int) []int {
	var some []int
	for _, x := range list {
		if x%p == r {
			some = append(some, x)
		}
	}
	return some
}

// P6.9
func TestLiftIsTheOnlyRoot(t *testing.T) {
	found := 0
	for _, m := range moduli() {
		for _, f := range somePolynomials() {
			roots := mustRoots(t, f, m.p, m.k)
			for r := range m.p {
				x, e := lift.Lift(f, m.p, m.k, r)
				if e != api.OK {
					continue
				}
				found++
				if l := above(roots, r, m.p); !slices.Equal(l, []int{x}) {
					t.Errorf("Lift(%v, %d, %d, %d): %d, but Roots has %v", f, m.p, m.k, r, x, l)
				}
				if m.k == 1 {
					continue
				}
				if y, e := lift.Lift(f, m.p, m.k-1, r); e != api.OK || x%(m.m/m.p) != y {
					t.Errorf("Lift(%v, %d, %d, %d): %d, but with k less: %d, error %d", f, m.p, m.k, r, x, y, e)
				}
			}
		}
	}
	if found < 1000 {
		t.Errorf("only %d roots", found)
	}
}

// P6.10
func TestSlopesRise(t *testing.T) {
	for _, p := range primes {
		for _, f := range somePolynomials() {
			sides := mustPolygon(t, f, p)
			for i := 1; i < len(sides); i++ {
				if !less(sides[i-1].Slope, sides[i].Slope) || sides[i-1].To != sides[i].From {
					t.Errorf("Polygon(%v, %d): %v", f, p, sides)
				}
			}
		}
	}
}

// slopeOrder compares for slices.SortFunc.
func slopeOrder(a, b api.Frac) int { return a.Num*b.Den - b.Num*a.Den }

// P6.10
func TestSlopesOfProducts(t *testing.T) {
	products := 0
	list := slices.Concat(somePolynomials(), smallPolynomials(4))
	for i, f := range list {
		for j := i % 5; j < len(list); j += 5 {
			h, e := lift.Times(f, list[j])
			if e != api.OK {
				continue
			}
			products++
			for _, p := range primes {
				want := slices.Concat(mustSlopes(t, f, p), mustSlopes(t, list[j], p))
				slices.SortFunc(want, slopeOrder)
				if l := mustSlopes(t, h, p); !slices.Equal(l, want) {
					t.Errorf("Slopes(%v, %d): %v, but of %v and %v: %v", h, p, l, f, list[j], want)
				}
			}
		}
	}
	if products < 10_000 {
		t.Errorf("only %d products", products)
	}
}

// P6.10
func TestPureIsNoProduct(t *testing.T) {
	list := slices.Concat(somePolynomials(), smallPolynomials(6))
	for i, f := range list {
		for j := i % 11; j < len(list); j += 11 {
			h, e := lift.Times(f, list[j])
			if e != api.OK {
				continue
			}
			for _, p := range primes {
				if isPure(t, h, p) {
					t.Errorf("Pure(%v, %d), but it is %v times %v", h, p, f, list[j])
				}
			}
		}
	}
}

// P6.10
func TestPolygonOfMultiples(t *testing.T) {
	for _, p := range primes {
		for _, f := range slices.Concat(somePolynomials(), smallPolynomials(5)) {
			for _, by := range []int{-1, 2, -3, 4, 5, 6, 7, 9, -11, 13, 77, 143, 199} {
				h := product(f, []int{by})
				if by%p == 0 || !allowed(h) {
					continue
				}
				if l, want := mustPolygon(t, h, p), mustPolygon(t, f, p); !slices.Equal(l, want) {
					t.Errorf("Polygon(%v, %d): %v, but of %v: %v", h, p, l, f, want)
				}
			}
		}
	}
}

// P6.11
func TestRootsHaveSlopes(t *testing.T) {
	found := 0
	for root := -1000; root <= 1000; root++ {
		for _, f := range slices.Concat([][]int{{0, 1}, {1, 1}}, smallPolynomials(1), somePolynomials()) {
			h, e := lift.Times(f, []int{-root, 1})
			if root == 0 || e != api.OK {
				continue
			}
			for _, p := range primes {
				found++
				if l := mustSlopes(t, h, p); !slices.Contains(l, api.Frac{Num: -order(root, p), Den: 1}) {
					t.Errorf("Slopes(%v, %d): %v, but %d is a root", h, p, l, root)
				}
			}
		}
	}
	if found < 10_000 {
		t.Errorf("only %d products", found)
	}
}

// P6.12
func TestDigitsOfNumbers(t *testing.T) {
	for _, p := range primes {
		for a := range 1001 {
			want := make([]int, 40)
			i := 0
			for n := a; n > 0; n /= p {
				want[i] = n % p
				i++
			}
			for _, b := range []int{1, 2, 3} {
				if b%p == 0 || a*b > 1000 {
					continue
				}
				l, e := lift.Digits(a*b, b, p, 40)
				is(t, l, e, want, "Digits", a*b, b, p, 40)
				if from, after := mustAgain(t, a*b, b, p); from != i || after != 1 {
					t.Errorf("Again(%d, %d, %d): %d %d, not %d 1", a*b, b, p, from, after, i)
				}
			}
		}
	}
}

// P6.12
func TestDigitsComeAgainInTime(t *testing.T) {
	for _, p := range primes {
		for _, x := range someFractions(p, 5) {
			from, after := mustAgain(t, x.a, x.b, p)
			if after < 1 || exponent(p, x.b)%after != 0 {
				t.Errorf("Again(%d, %d, %d): %d does not divide %d", x.a, x.b, p, after, exponent(p, x.b))
			}
			list := mustDigits(t, x.a, x.b, p, 40)
			if end := from + after; end < 40 && !slices.Equal(list[end:], list[from:40-after]) {
				t.Errorf("Again(%d, %d, %d): %d %d, but the digits are %v", x.a, x.b, p, from, after, list)
			}
		}
	}
}

// P6.12
func TestDigitsOfMinusOne(t *testing.T) {
	for _, p := range primes {
		for b := 1; b <= 1000; b++ {
			if b%p == 0 {
				continue
			}
			l, e := lift.Digits(-b, b, p, 40)
			is(t, l, e, slices.Repeat([]int{p - 1}, 40), "Digits", -b, b, p, 40)
			if from, after := mustAgain(t, -b, b, p); from != 0 || after != 1 {
				t.Errorf("Again(%d, %d, %d): %d %d", -b, b, p, from, after)
			}
		}
	}
}

// P6.13
func TestTeichOfProducts(t *testing.T) {
	for _, m := range moduli() {
		if mustTeich(t, 0, m.p, m.k) != 0 || mustTeich(t, 1, m.p, m.k) != 1 {
			t.Errorf("modulo %d: Teich of 0 is %d, of 1 is %d", m.m, mustTeich(t, 0, m.p, m.k), mustTeich(t, 1, m.p, m.k))
		}
		for r := range m.p {
			for q := range m.p {
				x := mustTeich(t, r*q%m.p, m.p, m.k)
				if y := mustTeich(t, r, m.p, m.k) * mustTeich(t, q, m.p, m.k) % m.m; x != y {
					t.Errorf("modulo %d: Teich of %d times %d is %d, but the product %d", m.m, r, q, x, y)
				}
			}
		}
	}
}

// P6.14
func TestSquaresModuloOddPrimes(t *testing.T) {
	for _, m := range moduli() {
		for _, a := range someSquares() {
			if m.p == 2 || a%m.p == 0 {
				continue
			}
			l := mustSquare(t, a, m.p, m.k)
			if len(l) != 0 && len(l) != 2 || len(l) == 2 && l[0]+l[1] != m.m || len(l) != len(mustSquare(t, a, m.p, 1)) {
				t.Errorf("Square(%d, %d, %d): %v", a, m.p, m.k, l)
			}
		}
	}
}

// P6.15
func TestRootsLieAboveRoots(t *testing.T) {
	for _, m := range moduli() {
		if m.k == 1 {
			continue
		}
		for _, f := range somePolynomials() {
			below := mustRoots(t, f, m.p, m.k-1)
			for _, x := range mustRoots(t, f, m.p, m.k) {
				if _, ok := slices.BinarySearch(below, x%(m.m/m.p)); !ok {
					t.Errorf("Roots(%v, %d, %d): %d, but with k less: %v", f, m.p, m.k, x, below)
				}
			}
		}
	}
}

// P6.1, P6.7: the square roots of a are the roots of x^2 - a.
func TestSquareIsRoots(t *testing.T) {
	for _, m := range moduli() {
		for a := -1000; a <= 1000; a += 37 {
			l, e := lift.Square(a, m.p, m.k)
			is(t, l, e, mustRoots(t, []int{-a, 0, 1}, m.p, m.k), "Square", a, m.p, m.k)
		}
	}
}
