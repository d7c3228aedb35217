package lift_test

import (
	"math/big"
	"math/rand/v2"
	"slices"
	"testing"

	"gherkin/api"
	"gherkin/lift"
)

// P6.1
func TestRootsAreAllResidues(t *testing.T) {
	for _, m := range moduli() {
		for _, f := range somePolynomials() {
			l, e := lift.Roots(f, m.p, m.k)
			is(t, l, e, rootsOf(f, m.m), "Roots", f, m.p, m.k)
		}
		if m.m > 130 {
			continue
		}
		for _, f := range smallPolynomials(3) {
			l, e := lift.Roots(f, m.p, m.k)
			is(t, l, e, rootsOf(f, m.m), "Roots", f, m.p, m.k)
		}
	}
}

// P6.1
func TestRootsExamples(t *testing.T) {
	all := make([]int, 8)
	for i := range all {
		all[i] = i
	}
	for _, c := range []struct {
		f    []int
		p, k int
		want []int
	}{
		{[]int{1, 0, 1}, 5, 1, []int{2, 3}}, {[]int{1, 0, 1}, 5, 2, []int{7, 18}}, {[]int{1, 0, 1}, 3, 1, nil}, {[]int{1, 0, 1}, 2, 1, []int{1}}, {[]int{1, 0, 1}, 2, 2, nil},
		{[]int{0, 0, 1}, 2, 2, []int{0, 2}}, {[]int{-1, 0, 1}, 2, 3, []int{1, 3, 5, 7}}, {[]int{8, 16}, 2, 3, all}, {[]int{8, 16}, 2, 4, nil}, {[]int{-1, 1}, 2, 14, []int{1}},
		{[]int{1, 1}, 3, 9, []int{19682}}, {[]int{-7, 1}, 2, 2, []int{3}}, {[]int{0, -1, 0, 1}, 3, 1, []int{0, 1, 2}}, {[]int{-1000, 1}, 13, 3, []int{1000}}, {[]int{1000, 1}, 13, 3, []int{1197}},
	} {
		l, e := lift.Roots(c.f, c.p, c.k)
		is(t, l, e, c.want, "Roots", c.f, c.p, c.k)
	}
}

// P6.1: with numbers of any size, near the greatest moduli.
func TestRootsAreExact(t *testing.T) {
	for _, m := range moduli() {
		if m.m < 10_000 {
			continue
		}
		for i, f := range somePolynomials() {
			if i%20 > 0 && i > 16 {
				continue
			}
			roots := mustRoots(t, f, m.p, m.k)
			for x := m.m - 1; x > m.m-300; x-- {
				_, ok := slices.BinarySearch(roots, x)
				if ok != divides(m.m, value(f, x)) {
					t.Errorf("Roots(%v, %d, %d): %d is one: %t", f, m.p, m.k, x, ok)
				}
			}
		}
	}
}

// lifted returns what Lift is to return, by its definition.
func lifted(f []int, m modulus, r int) (int, api.Errno) {
	if !divides(m.p, value(f, r)) {
		return 0, api.ErrArg
	}
	if divides(m.p, slope(f, r)) {
		return 0, api.ErrState
	}
	for x := r; x < m.m; x += m.p {
		if isRoot(f, x, m.m) {
			return x, api.OK
		}
	}
	return -1, api.ErrNone
}

// P6.2
func TestLiftIsTheRootAbove(t *testing.T) {
	times := map[api.Errno]int{}
	for _, m := range moduli() {
		for _, f := range slices.Concat(somePolynomials(), smallPolynomials(2)) {
			for r := range m.p {
				want, wantError := lifted(f, m, r)
				times[wantError]++
				if x, e := lift.Lift(f, m.p, m.k, r); x != want || e != wantError {
					t.Errorf("Lift(%v, %d, %d, %d): %d, error %d, not %d, error %d", f, m.p, m.k, r, x, e, want, wantError)
				}
			}
		}
	}
	if times[api.OK] < 1000 || times[api.ErrState] < 1000 || times[api.ErrArg] < 1000 || times[api.ErrNone] > 0 {
		t.Errorf("so often each error: %v", times)
	}
}

// P6.2
func TestLiftExamples(t *testing.T) {
	for _, c := range []struct {
		f          []int
		p, k, r, x int
		e          api.Errno
	}{
		{[]int{1, 0, 1}, 5, 2, 2, 7, api.OK}, {[]int{1, 0, 1}, 5, 2, 3, 18, api.OK}, {[]int{1, 0, 1}, 5, 1, 2, 2, api.OK}, {[]int{1, 0, 1}, 5, 6, 2, 14557, api.OK}, {[]int{1, 0, 1}, 5, 2, 1, 0, api.ErrArg},
		{[]int{0, 0, 1}, 5, 2, 0, 0, api.ErrState}, {[]int{0, 0, 1}, 5, 1, 0, 0, api.ErrState}, {[]int{0, 0, 1}, 5, 2, 1, 0, api.ErrArg}, {[]int{0, 1}, 5, 2, 0, 0, api.OK}, {[]int{1, 1}, 2, 14, 1, 16383, api.OK},
		// With the digit 0 modulo p there is one root alone, but not because of the
		// derivative; and 4 x is always 0 modulo 4.
		{[]int{1, 0, 1}, 2, 1, 1, 0, api.ErrState}, {[]int{0, 4}, 2, 2, 0, 0, api.ErrState}, {[]int{0, 4}, 2, 2, 1, 0, api.ErrState},
		// The derivative is that of all terms: 1 + 2 x + 3 x^2 .. at 1.
		{[]int{1, 1, 1}, 3, 2, 1, 0, api.ErrState}, {[]int{-3, 1, 1, 1}, 5, 2, 1, 1, api.OK}, {[]int{-4, 1, 1, 1, 1}, 5, 2, 1, 0, api.ErrState},
	} {
		if x, e := lift.Lift(c.f, c.p, c.k, c.r); x != c.x || e != c.e {
			t.Errorf("Lift(%v, %d, %d, %d): %d, error %d, not %d, error %d", c.f, c.p, c.k, c.r, x, e, c.x, c.e)
		}
	}
}

// P6.3, P6.4
func TestPolygonsAreLowerBoundaries(t *testing.T) {
	pure := 0
	for _, p := range primes {
		for _, f := range slices.Concat(somePolynomials(), smallPolynomials(9)) {
			want := sidesOf(f, p)
			sides, e := lift.Polygon(f, p)
			is(t, sides, e, want, "Polygon", f, p)
			var slopes []api.Frac
			for _, side := range want {
				slopes = append(slopes, slices.Repeat([]api.Frac{side.Slope}, side.To-side.From)...)
			}
			l, e := lift.Slopes(f, p)
			is(t, l, e, slopes, "Slopes", f, p)
			wantPure := f[0] != 0 && len(want) == 1 && want[0].Slope.Den == len(f)-1
			if isPure(t, f, p) != wantPure {
				t.Errorf("Pure(%v, %d): not %t", f, p, wantPure)
			}
			if wantPure && len(f) > 3 {
				pure++
			}
		}
	}
	if pure < 10 {
		t.Errorf("only %d are pure", pure)
	}
}

// P6.3
func TestPolygonExamples(t *testing.T) {
	for _, c := range []struct {
		f    []int
		p    int
		want []lift.Side
	}{
		{[]int{4, 2, 1}, 2, []lift.Side{{From: 0, To: 2, Slope: api.Frac{Num: -1, Den: 1}}}},
		{[]int{2, 1, 4}, 2, []lift.Side{{From: 0, To: 1, Slope: api.Frac{Num: -1, Den: 1}}, {From: 1, To: 2, Slope: api.Frac{Num: 2, Den: 1}}}},
		{[]int{1, 1}, 2, []lift.Side{{From: 0, To: 1, Slope: api.Frac{Num: 0, Den: 1}}}},
		{[]int{4, 0, 1}, 3, []lift.Side{{From: 0, To: 2, Slope: api.Frac{Num: 0, Den: 1}}}},
		{[]int{-8, 0, 0, 0, 2}, 2, []lift.Side{{From: 0, To: 4, Slope: api.Frac{Num: -1, Den: 2}}}},
		{[]int{0, 2, 0, 16}, 2, []lift.Side{{From: 1, To: 3, Slope: api.Frac{Num: 3, Den: 2}}}},
		{[]int{0, 5}, 5, nil}, {[]int{0, 0, 0, 0, 0, 0, -1000}, 2, nil},
		// The middle is far above the line, or just above it.
		{[]int{2, 512, 2}, 2, []lift.Side{{From: 0, To: 2, Slope: api.Frac{Num: 0, Den: 1}}}},
		{[]int{1, 4, 8}, 2, []lift.Side{{From: 0, To: 2, Slope: api.Frac{Num: 3, Den: 2}}}},
		{[]int{1, 2, 8}, 2, []lift.Side{{From: 0, To: 1, Slope: api.Frac{Num: 1, Den: 1}}, {From: 1, To: 2, Slope: api.Frac{Num: 2, Den: 1}}}},
		{[]int{512, 32, 4, 1, 2, 8, 64}, 2, []lift.Side{
			{From: 0, To: 1, Slope: api.Frac{Num: -4, Den: 1}}, {From: 1, To: 2, Slope: api.Frac{Num: -3, Den: 1}}, {From: 2, To: 3, Slope: api.Frac{Num: -2, Den: 1}},
			{From: 3, To: 4, Slope: api.Frac{Num: 1, Den: 1}}, {From: 4, To: 5, Slope: api.Frac{Num: 2, Den: 1}}, {From: 5, To: 6, Slope: api.Frac{Num: 3, Den: 1}},
		}},
		{[]int{64, 32, 16, 8, 4, 2, 1}, 2, []lift.Side{{From: 0, To: 6, Slope: api.Frac{Num: -1, Den: 1}}}},
	} {
		l, e := lift.Polygon(c.f, c.p)
		is(t, l, e, c.want, "Polygon", c.f, c.p)
	}
}

// P6.3
func TestSlopesExamples(t *testing.T) {
	for _, c := range []struct {
		f    []int
		p    int
		want []api.Frac
	}{
		{[]int{4, 2, 1}, 2, []api.Frac{{Num: -1, Den: 1}, {Num: -1, Den: 1}}}, {[]int{2, 1, 4}, 2, []api.Frac{{Num: -1, Den: 1}, {Num: 2, Den: 1}}}, {[]int{0, 0, 7}, 7, nil},
		{[]int{0, 1, 0, 0, 9}, 3, []api.Frac{{Num: 2, Den: 3}, {Num: 2, Den: 3}, {Num: 2, Den: 3}}}, {[]int{1, 1, 13}, 13, []api.Frac{{Num: 0, Den: 1}, {Num: 1, Den: 1}}},
	} {
		l, e := lift.Slopes(c.f, c.p)
		is(t, l, e, c.want, "Slopes", c.f, c.p)
	}
}

// P6.4
func TestPureExamples(t *testing.T) {
	for _, c := range []struct {
		f    []int
		p    int
		want bool
	}{
		{[]int{2, 0, 1}, 2, true}, {[]int{4, 2, 1}, 2, false}, {[]int{0, 2, 1}, 2, false}, {[]int{0, 1}, 2, false}, {[]int{1, 1}, 2, true}, {[]int{8, 3}, 2, true}, {[]int{1, 0, 1}, 2, false}, {[]int{1, 0, 2}, 2, true},
		{[]int{4, 0, 0, 1}, 2, true}, {[]int{4, 2, 0, 1}, 2, false}, {[]int{4, 4, 2, 1}, 2, true}, {[]int{8, 0, 0, 1}, 2, false}, {[]int{5, 5, 5, 5, 5, 5, 1}, 5, true}, {[]int{5, 5, 5, 5, 5, 5, 1}, 3, false},
		{[]int{16, 0, 0, 0, 0, 0, 1}, 2, false}, {[]int{32, 0, 0, 0, 0, 0, 1}, 2, true}, {[]int{-3, 0, 0, 0, 3}, 3, false},
		// One side, with the degree as the width of it, but not from 0 on.
		{[]int{0, 2, 0, 1}, 2, false}, {[]int{0, 0, 2, 0, 0, 1}, 2, false}, {[]int{0, 0, 3}, 3, false},
		// Two sides, one of them with such a slope.
		{[]int{2, 2, 1}, 2, true}, {[]int{2, 1, 1}, 2, false}, {[]int{1, 0, 2, 8}, 2, false},
	} {
		if isPure(t, c.f, c.p) != c.want {
			t.Errorf("Pure(%v, %d): not %t", c.f, c.p, c.want)
		}
	}
}

// fraction is a / b, not always in lowest terms.
type fraction struct{ a, b int }

// someFractions returns fractions with all denominators up to 1000, some with
// numerators at the ends of what is allowed.
func someFractions(p, step int) []fraction {
	random := rand.New(rand.NewPCG(6, 2))
	var list []fraction
	for b := 1; b <= 1000; b++ {
		if b%p == 0 {
			continue
		}
		for _, a := range []int{0, 1, -1, b, -b, 1000, -1000, random.IntN(2001) - 1000, random.IntN(2001) - 1000} {
			list = append(list, fraction{a, b})
		}
	}
	for b := 1; b <= 12; b++ {
		for a := -30; a <= 30 && b%p != 0; a++ {
			list = append(list, fraction{a, b})
		}
	}
	var some []fraction
	for i := 0; i < len(list); i += step {
		some = append(some, list[i])
	}
	return some
}

// P6.5
func TestDigitsAreTheOnlyOnes(t *testing.T) {
	for _, p := range primes {
		for _, x := range someFractions(p, 7) {
			want := digitsOf(x.a, x.b, p, 40)
			for _, n := range []int{0, 1, 2, 3, 10, 39, 40} {
				l, e := lift.Digits(x.a, x.b, p, n)
				is(t, l, e, want[:n], "Digits", x.a, x.b, p, n)
			}
		}
	}
}

// P6.5
func TestDigitsOfAllSmallFractions(t *testing.T) {
	for _, p := range primes {
		for b := 1; b <= 1000; b++ {
			for a := -1000; a <= 1000 && b%p != 0; a += 1 + (a+b+1000)%9 {
				number, power := 0, 1
				for _, d := range mustDigits(t, a, b, p, 12) {
					number += d * power
					power *= p
					if d < 0 || d >= p || (number%power*b-a)%power != 0 {
						t.Fatalf("Digits(%d, %d, %d, 12): %v", a, b, p, mustDigits(t, a, b, p, 12))
					}
				}
			}
		}
	}
}

// P6.5
func TestDigitsExamples(t *testing.T) {
	for _, c := range []struct {
		a, b, p, n int
		want       []int
	}{
		{1, 3, 2, 6, []int{1, 1, 0, 1, 0, 1}}, {-1, 1, 5, 3, []int{4, 4, 4}}, {1, 2, 5, 4, []int{3, 2, 2, 2}}, {2, 4, 5, 4, []int{3, 2, 2, 2}}, {6, 1, 5, 3, []int{1, 1, 0}}, {0, 7, 3, 4, []int{0, 0, 0, 0}},
		{5, 3, 5, 4, []int{0, 2, 3, 1}}, {-1000, 1000, 13, 2, []int{12, 12}}, {1000, 999, 2, 3, []int{0, 0, 0}}, {1, 3, 2, 0, nil}, {6, 3, 2, 3, []int{0, 1, 0}},
	} {
		l, e := lift.Digits(c.a, c.b, c.p, c.n)
		is(t, l, e, c.want, "Digits", c.a, c.b, c.p, c.n)
	}
}

// againOf returns when digits come again: all s and t are tried on so many of
// them that they suffice for denominators and numerators up to 40.
func againOf(a, b, p int) (int, int) {
	list := digitsOf(a, b, p, 150)
	for from := 0; from < 20; from++ {
		for after := 1; after <= 40; after++ {
			if slices.Equal(list[from:len(list)-after], list[from+after:]) {
				return from, after
			}
		}
	}
	return -1, -1
}

// P6.5
func TestAgainIsTheLeast(t *testing.T) {
	late := 0
	for _, p := range primes {
		for b := 1; b <= 40; b++ {
			for a := -40; a <= 40 && b%p != 0; a += 1 + (a+b+40)%3 {
				wantFrom, wantAfter := againOf(a, b, p)
				if from, after := mustAgain(t, a, b, p); from != wantFrom || after != wantAfter {
					t.Errorf("Again(%d, %d, %d): %d %d, not %d %d", a, b, p, from, after, wantFrom, wantAfter)
				}
				if wantFrom > 2 {
					late++
				}
			}
		}
	}
	if late < 100 {
		t.Errorf("only %d fractions with a late beginning", late)
	}
}

// turnOf returns from where on the digits of a / b come again, and after how
// many: in lowest terms those fractions from -1 to 0 do so from the start, and
// after as many digits as the exponent of the denominator.
func turnOf(a, b, p int) (from, after int) {
	low := lowest(a, b)
	rest := big.NewInt(int64(a))
	for _, d := range digitsOf(a, b, p, 40) {
		if rest.Sign() <= 0 && rest.Cmp(big.NewInt(int64(-b))) >= 0 {
			break
		}
		rest.Sub(rest, big.NewInt(int64(d*b)))
		rest.Div(rest, big.NewInt(int64(p)))
		from++
	}
	return from, exponent(p, low.Den)
}

// P6.5
func TestAgainOfAnyDenominator(t *testing.T) {
	longest := 0
	for _, p := range primes {
		for _, x := range someFractions(p, 4) {
			wantFrom, wantAfter := turnOf(x.a, x.b, p)
			longest = max(longest, wantAfter)
			if from, after := mustAgain(t, x.a, x.b, p); from != wantFrom || after != wantAfter {
				t.Errorf("Again(%d, %d, %d): %d %d, not %d %d", x.a, x.b, p, from, after, wantFrom, wantAfter)
			}
		}
	}
	if longest < 900 {
		t.Errorf("the digits come again after %d, at the latest", longest)
	}
}

// P6.5
func TestAgainExamples(t *testing.T) {
	for _, c := range []struct{ a, b, p, from, after int }{
		{1, 3, 2, 1, 2}, {6, 1, 5, 2, 1}, {-1, 1, 5, 0, 1}, {0, 1, 2, 0, 1}, {0, 7, 3, 0, 1}, {1, 1, 2, 1, 1}, {-1, 3, 2, 0, 2}, {-2, 6, 5, 0, 2}, {1, 2, 5, 1, 1}, {1000, 1, 2, 10, 1}, {-1000, 1, 2, 10, 1}, {-1, 997, 7, 0, 996},
	} {
		if from, after := mustAgain(t, c.a, c.b, c.p); from != c.from || after != c.after {
			t.Errorf("Again(%d, %d, %d): %d %d, not %d %d", c.a, c.b, c.p, from, after, c.from, c.after)
		}
	}
}

// P6.6: there is no other residue.
func TestTeichIsItsPower(t *testing.T) {
	for _, m := range moduli() {
		for r := range m.p {
			x := mustTeich(t, r, m.p, m.k)
			if x < 0 || x >= m.m || x%m.p != r {
				t.Errorf("Teich(%d, %d, %d): %d", r, m.p, m.k, x)
			}
			for y := r; y < m.m; y += m.p {
				power := new(big.Int).Exp(big.NewInt(int64(y)), big.NewInt(int64(m.p)), big.NewInt(int64(m.m)))
				if (power.Int64() == int64(y)) != (x == y) {
					t.Errorf("Teich(%d, %d, %d): %d, but also %d", r, m.p, m.k, x, y)
				}
			}
		}
	}
	for _, c := range []struct{ r, p, k, want int }{{2, 5, 2, 7}, {3, 5, 2, 18}, {4, 5, 2, 24}, {1, 2, 14, 1}, {2, 3, 9, 19682}, {2, 7, 3, 324}, {12, 13, 3, 2196}, {5, 7, 1, 5}} {
		if x := mustTeich(t, c.r, c.p, c.k); x != c.want {
			t.Errorf("Teich(%d, %d, %d): %d, not %d", c.r, c.p, c.k, x, c.want)
		}
	}
}

// someSquares returns numbers of all sizes, some of them with many factors p.
func someSquares() []int {
	list := []int{1_000_000, -1_000_000, 999_999, -999_999, 531_441, 524_288, 65536, -65536, 390_625, 16384, 15625, 19683, 16807, 2197 * 169}
	for a := -20; a <= 40; a++ {
		list = append(list, a)
	}
	random := rand.New(rand.NewPCG(6, 3))
	for range 60 {
		list = append(list, random.IntN(2_000_001)-1_000_000)
	}
	return list
}

// P6.7
func TestSquareHasAllResidues(t *testing.T) {
	for _, m := range moduli() {
		for _, a := range someSquares() {
			var want []int
			for x := range m.m {
				if (x*x-a)%m.m == 0 {
					want = append(want, x)
				}
			}
			l, e := lift.Square(a, m.p, m.k)
			is(t, l, e, want, "Square", a, m.p, m.k)
		}
	}
}

// P6.7
func TestSquareExamples(t *testing.T) {
	for _, c := range []struct {
		a, p, k int
		want    []int
	}{
		{-1, 5, 2, []int{7, 18}}, {0, 5, 2, []int{0, 5, 10, 15, 20}}, {0, 2, 1, []int{0}}, {1, 2, 1, []int{1}}, {1, 2, 2, []int{1, 3}}, {17, 2, 5, []int{7, 9, 23, 25}}, {2, 3, 1, nil}, {5, 5, 2, nil}, {4, 2, 3, []int{2, 6}}, {9, 3, 3, []int{3, 6, 12, 15, 21, 24}}, {1_000_000, 13, 3, []int{1000, 1197}},
	} {
		l, e := lift.Square(c.a, c.p, c.k)
		is(t, l, e, c.want, "Square", c.a, c.p, c.k)
	}
}

// P6.8
func TestTimesMultiplies(t *testing.T) {
	times := map[bool]int{}
	list := slices.Concat(somePolynomials(), smallPolynomials(2))
	for i, f := range list {
		for j := i % 3; j < len(list); j += 3 {
			want := product(f, list[j])
			ok := allowed(want)
			times[ok]++
			l, e := lift.Times(f, list[j])
			if ok {
				is(t, l, e, want, "Times", f, list[j])
			} else if e != api.ErrArg || len(l) > 0 {
				t.Errorf("Times(%v, %v): %v, error %d", f, list[j], l, e)
			}
		}
	}
	if times[true] < 1000 || times[false] < 1000 {
		t.Errorf("so often there is a product: %v", times)
	}
}

// P6.8: nil stands for ErrArg.
func TestTimesExamples(t *testing.T) {
	for _, c := range []struct{ f, g, want []int }{
		{[]int{1, 1}, []int{-1, 1}, []int{-1, 0, 1}}, {[]int{2, 1}, []int{3, 1}, []int{6, 5, 1}}, {[]int{0, 1}, []int{0, 0, 0, 0, 0, 1}, []int{0, 0, 0, 0, 0, 0, 1}}, {[]int{0, 1}, []int{0, 0, 0, 0, 0, 0, 1}, nil}, {[]int{1, 0, 0, 1}, []int{1, 0, 0, 0, 1}, nil},
		{[]int{20, 1}, []int{50, 1}, []int{1000, 70, 1}}, {[]int{-20, 1}, []int{50, 1}, []int{-1000, 30, 1}}, {[]int{7, 1}, []int{143, 1}, nil}, {[]int{-7, 1}, []int{143, 1}, nil}, {[]int{0, 40}, []int{0, 25}, []int{0, 0, 1000}}, {[]int{0, 40}, []int{0, 26}, nil},
		{[]int{1000, 1000}, []int{1000, 1000}, nil}, {[]int{-1000, 1000}, []int{-1, 1}, nil}, {[]int{500, 500}, []int{1, 1}, []int{500, 1000, 500}}, {[]int{501, 500}, []int{1, 1}, nil}, {slices.Repeat([]int{1000}, 7), slices.Repeat([]int{1000}, 7), nil},
	} {
		for _, pair := range [][2][]int{{c.f, c.g}, {c.g, c.f}} {
			l, e := lift.Times(pair[0], pair[1])
			if c.want == nil {
				refused(t, e, len(l) == 0, "Times", pair[0], pair[1])
			} else {
				is(t, l, e, c.want, "Times", pair[0], pair[1])
			}
		}
	}
}
