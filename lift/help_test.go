package lift_test

import (
	"math/big"
	"math/rand/v2"
	"slices"
	"sync"
	"testing"

	"gherkin/api"
	"gherkin/lift"
)

var primes = []int{2, 3, 5, 7, 11, 13}

// modulus is m, which is p^k.
type modulus struct{ p, k, m int }

// moduli returns all p^k up to 20,000, k rising.
func moduli() []modulus {
	var list []modulus
	for _, p := range primes {
		for k, m := 1, p; m <= 20_000; k, m = k+1, m*p {
			list = append(list, modulus{p, k, m})
		}
	}
	return list
}

// smallPolynomials returns all with 2 or 3 coefficients from -most to most.
func smallPolynomials(most int) [][]int {
	var list [][]int
	for a := -most; a <= most; a++ {
		for b := -most; b <= most; b++ {
			if b != 0 {
				list = append(list, []int{a, b})
			}
			for c := -most; c <= most; c++ {
				if c != 0 {
					list = append(list, []int{a, b, c})
				}
			}
		}
	}
	return list
}

// somePolynomials returns those at the ends of what is allowed, and random ones
// with coefficients that are 0, or divisible by powers of a prime, of all sizes.
var somePolynomials = sync.OnceValue(func() [][]int {
	list := [][]int{
		{1, 0, 1}, {4, 2, 1}, {2, 1, 4}, {0, 1}, {0, -1}, {0, 0, 1}, {0, 0, 0, 0, 0, 0, 1}, {1000, 1000}, {-1000, -1000}, {0, 0, 0, 0, 0, 0, -1000},
		slices.Repeat([]int{1000}, 7), slices.Repeat([]int{-1000}, 7), {1000, -1000, 1000, -1000, 1000, -1000, 1000}, {512, 0, 1}, {-729, 0, 0, 0, 0, 0, 1}, {0, 0, 0, 512, 0, 0, 512},
		{-17, 0, 1}, {-1, 0, 0, 0, 0, 0, 1}, {6, -5, 1}, {0, -1, 0, 0, 0, 1}, {0, -1, 0, 1}, {625, 0, 625}, {-4, 0, 1}, {9, 6, 1}, {-36, 0, 13, 0, -1}, {0, -6, 11, -6, 1},
	}
	random := rand.New(rand.NewPCG(6, 1))
	for i := range 240 {
		f := make([]int, 2+i%6)
		for j := range f {
			f[j] = random.IntN(2001) - 1000
			p := primes[random.IntN(len(primes))]
			for i%3 > 0 && max(f[j], -f[j])*p <= 1000 && f[j] != 0 && random.IntN(4) > 0 {
				f[j] *= p
			}
			if i%3 == 1 {
				f[j] = random.IntN(9) - 4
				for range random.IntN(4) {
					f[j] *= p
				}
				f[j] = max(min(f[j], 1000), -1000)
			}
			if random.IntN(5) == 0 {
				f[j] = 0
			}
		}
		if f[len(f)-1] == 0 {
			f[len(f)-1] = 1 + random.IntN(1000)
		}
		list = append(list, f)
	}
	return list
})

// allowed reports whether f is a polynomial.
func allowed(f []int) bool {
	for _, c := range f {
		if c < -1000 || c > 1000 {
			return false
		}
	}
	return len(f) >= 2 && len(f) <= 7 && f[len(f)-1] != 0
}

// isRoot reports whether m divides f at x: each of the powers of x is taken
// modulo m.
func isRoot(f []int, x, m int) bool {
	sum, power := 0, 1
	for _, c := range f {
		sum += c * power
		power = power * x % m
	}
	return sum%m == 0
}

// value returns f at x.
func value(f []int, x int) *big.Int {
	sum := new(big.Int)
	for i, c := range f {
		term := new(big.Int).Exp(big.NewInt(int64(x)), big.NewInt(int64(i)), nil)
		sum.Add(sum, term.Mul(term, big.NewInt(int64(c))))
	}
	return sum
}

// slope returns the derivative of f at x.
func slope(f []int, x int) *big.Int {
	var d []int
	for i, c := range f[1:] {
		d = append(d, (i+1)*c)
	}
	return value(d, x)
}

func divides(m int, n *big.Int) bool {
	return new(big.Int).Rem(n, big.NewInt(int64(m))).Sign() == 0
}

// rootsOf returns all residues modulo m that are roots of f, rising.
func rootsOf(f []int, m int) []int {
	var list []int
	for x := range m {
		if isRoot(f, x, m) {
			list = append(list, x)
		}
	}
	return list
}

// order returns how often p divides n, which is not 0.
func order(n, p int) int {
	count := 0
	for power := p; n%power == 0; power *= p {
		count++
	}
	return count
}

// lowest returns the fraction in lowest terms.
func lowest(num, den int) api.Frac {
	r := big.NewRat(int64(num), int64(den))
	return api.Frac{Num: int(r.Num().Int64()), Den: int(r.Denom().Int64())}
}

func less(a, b api.Frac) bool { return a.Num*b.Den < b.Num*a.Den }

// sidesOf returns the lower boundary: of any two points, those between whose
// line and the ground no point is, and beyond which none is on the line.
func sidesOf(f []int, p int) []lift.Side {
	var list []lift.Side
	for i := range f {
		for j := i + 1; j < len(f); j++ {
			if f[i] != 0 && f[j] != 0 && isSide(f, p, i, j) {
				list = append(list, lift.Side{From: i, To: j, Slope: lowest(order(f[j], p)-order(f[i], p), j-i)})
			}
		}
	}
	return list
}

func isSide(f []int, p, i, j int) bool {
	for l, c := range f {
		if c == 0 {
			continue
		}
		line := order(f[i], p)*(j-i) + (order(f[j], p)-order(f[i], p))*(l-i)
		above := order(c, p)*(j-i) - line
		if above < 0 || above == 0 && (l < i || l > j) {
			return false
		}
	}
	return true
}

// product returns f times g, of any size.
func product(f, g []int) []int {
	var list []int
	for n := range len(f) + len(g) - 1 {
		sum := 0
		for i := range f {
			if j := n - i; j >= 0 && j < len(g) {
				sum += f[i] * g[j]
			}
		}
		list = append(list, sum)
	}
	return list
}

// digitsOf returns the digits of a / b by their definition: each is the only one
// with which the number that they are, times b, less a, is divisible by p once
// more.
func digitsOf(a, b, p, n int) []int {
	var list []int
	number, power := new(big.Int), big.NewInt(1)
	for range n {
		next := new(big.Int).Mul(power, big.NewInt(int64(p)))
		d := 0
		for !expands(number, next, a, b) {
			number.Add(number, power)
			d++
		}
		list = append(list, d)
		power = next
	}
	return list
}

// expands reports whether number times b, less a, is divisible by power.
func expands(number, power *big.Int, a, b int) bool {
	left := new(big.Int).Mul(number, big.NewInt(int64(b)))
	left.Sub(left, big.NewInt(int64(a)))
	return left.Rem(left, power).Sign() == 0
}

// exponent returns the least e from 1 on such that p^e - 1 is divisible by b.
func exponent(p, b int) int {
	e := 1
	for power := p % b; (power-1)%b != 0; power = power * p % b {
		e++
	}
	return e
}

// is checks a list that is to be found.
func is[T comparable](t *testing.T, got []T, e api.Errno, want []T, call string, arguments ...any) {
	t.Helper()
	if e != api.OK || !slices.Equal(got, want) {
		t.Errorf("%s of %v: %v, error %d, not %v", call, arguments, got, e, want)
	}
}

func mustRoots(t *testing.T, f []int, p, k int) []int {
	t.Helper()
	l, e := lift.Roots(f, p, k)
	if e != api.OK {
		t.Fatalf("Roots(%v, %d, %d): error %d", f, p, k, e)
	}
	return l
}

func mustPolygon(t *testing.T, f []int, p int) []lift.Side {
	t.Helper()
	l, e := lift.Polygon(f, p)
	if e != api.OK {
		t.Fatalf("Polygon(%v, %d): error %d", f, p, e)
	}
	return l
}

func mustSlopes(t *testing.T, f []int, p int) []api.Frac {
	t.Helper()
	l, e := lift.Slopes(f, p)
	if e != api.OK {
		t.Fatalf("Slopes(%v, %d): error %d", f, p, e)
	}
	return l
}

func isPure(t *testing.T, f []int, p int) bool {
	t.Helper()
	ok, e := lift.Pure(f, p)
	if e != api.OK {
		t.Fatalf("Pure(%v, %d): error %d", f, p, e)
	}
	return ok
}

func mustDigits(t *testing.T, a, b, p, n int) []int {
	t.Helper()
	l, e := lift.Digits(a, b, p, n)
	if e != api.OK {
		t.Fatalf("Digits(%d, %d, %d, %d): error %d", a, b, p, n, e)
	}
	return l
}

func mustAgain(t *testing.T, a, b, p int) (int, int) {
	t.Helper()
	from, after, e := lift.Again(a, b, p)
	if e != api.OK {
		t.Fatalf("Again(%d, %d, %d): error %d", a, b, p, e)
	}
	return from, after
}

func mustTeich(t *testing.T, r, p, k int) int {
	t.Helper()
	x, e := lift.Teich(r, p, k)
	if e != api.OK {
		t.Fatalf("Teich(%d, %d, %d): error %d", r, p, k, e)
	}
	return x
}

func mustSquare(t *testing.T, a, p, k int) []int {
	t.Helper()
	l, e := lift.Square(a, p, k)
	if e != api.OK {
		t.Fatalf("Square(%d, %d, %d): error %d", a, p, k, e)
	}
	return l
}
