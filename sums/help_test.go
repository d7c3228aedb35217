package sums_test

import (
	"math/big"
	"math/rand/v2"
	"slices"
	"sync"
	"testing"

	"gherkin/api"
	"gherkin/sums"
)

// divisor returns the greatest number that divides both.
func divisor(a, b int) int {
	return int(new(big.Int).GCD(nil, nil, big.NewInt(int64(a)), big.NewInt(int64(b))).Int64())
}

// turnsOf returns the numbers from 1 to n that have no factor in common with n.
func turnsOf(n int) []int {
	var list []int
	for t := 1; t <= n; t++ {
		if divisor(t, n) == 1 {
			list = append(list, t)
		}
	}
	return list
}

// width returns f(n): how many elements a number of order n has.
func width(n int) int { return len(turnsOf(n)) }

func isPrime(n int) bool { return big.NewInt(int64(n)).ProbablyPrime(20) }

// oddPrimes returns those up to most.
func oddPrimes(most int) []int {
	var list []int
	for p := 3; p <= most; p += 2 {
		if isPrime(p) {
			list = append(list, p)
		}
	}
	return list
}

// primeOf returns the prime of which n is a power, else 1.
func primeOf(n int) int {
	for p := 2; p <= n; p++ {
		if n%p > 0 {
			continue
		}
		for n%p == 0 {
			n /= p
		}
		if n == 1 {
			return p
		}
		return 1
	}
	return 1
}

// product returns that of two polynomials.
func product(f, g []int) []int {
	var list []int
	for n := range len(f) + len(g) - 1 {
		sum := 0
		for i := range f {
			if j := n - i; j >= 0 && j < len(g) {
				sum += f[i] * g[j]
			}
		}
		list = append(list, sum)
	}
	return list
}

// A field is the numbers modulo the prime q. In it z can be root[n], or a power of
// it that has the order n too: what is the same for all these is the same modulo q.
type field struct {
	q    int
	root [api.MaxRoot + 1]int
}

// fields returns two with primes so large that numbers below 2^58 that are the same
// in both are the same.
var fields = sync.OnceValue(func() []field {
	var list []field
	// 360,360 is divisible by all n up to MaxRoot.
	for q := 360_360*2_900 + 1; len(list) < 2; q += 360_360 {
		if !isPrime(q) {
			continue
		}
		f := field{q: q}
		for n := 1; n <= api.MaxRoot; n++ {
			f.root[n] = f.rootOf(n)
		}
		list = append(list, f)
	}
	return list
})

func (f field) modulo(x int) int { return (x%f.q + f.q) % f.q }

func (f field) power(x, e int) int {
	return int(new(big.Int).Exp(big.NewInt(int64(x)), big.NewInt(int64(e)), big.NewInt(int64(f.q))).Int64())
}

// rootOf returns a number whose first power that is 1 is the n-th.
func (f field) rootOf(n int) int {
	for g := 2; ; g++ {
		r := f.power(g, (f.q-1)/n)
		e := 1
		for f.power(r, e) != 1 {
			e++
		}
		if e == n {
			return r
		}
	}
}

// value returns what a is where z is the t-th power of the root.
func (f field) value(n int, a []int, t int) int {
	z, sum, power := f.power(f.root[n], t), 0, 1
	for _, c := range a {
		sum = f.modulo(sum + f.modulo(c)*power)
		power = power * z % f.q
	}
	return sum
}

// isNumber reports whether a is the number of order n that has everywhere the value
// that want returns.
func isNumber(n int, a []int, want func(f field, t int) int) bool {
	if len(a) != width(n) {
		return false
	}
	for _, f := range fields() {
		for _, t := range turnsOf(n) {
			if f.value(n, a, t) != f.modulo(want(f, t)) {
				return false
			}
		}
	}
	return isBelow(a)
}

// isBelow reports whether the fields tell the elements from others.
func isBelow(a []int) bool { return slices.Min(a) > -1<<58 && slices.Max(a) < 1<<58 }

// isWhole reports whether x is what want returns, modulo the prime of each field.
func isWhole(x int, want func(f field) int) bool {
	for _, f := range fields() {
		if f.modulo(x) != f.modulo(want(f)) {
			return false
		}
	}
	return isBelow([]int{x})
}

// one returns the number 1, and root the number z.
func one(n int) []int {
	a := make([]int, width(n))
	a[0] = 1
	return a
}

func root(n int) []int {
	a := make([]int, width(n))
	switch {
	case n == 1:
		a[0] = 1
	case n == 2:
		a[0] = -1
	default:
		a[1] = 1
	}
	return a
}

// numbers returns numbers of order n with elements from -most to most: the ones at
// the ends, and random ones, many of which have elements that are 0.
func numbers(n, most, count int) [][]int {
	f := width(n)
	list := [][]int{make([]int, f), one(n), root(n), slices.Repeat([]int{most}, f), slices.Repeat([]int{-most}, f), make([]int, f), make([]int, f)}
	for k := range f {
		list[5][k] = most * (1 - k%2*2)
		list[6][k] = most * (k%3 - 1)
	}
	random := rand.New(rand.NewPCG(8, uint64(n)))
	for len(list) < count {
		a := make([]int, f)
		for k := range a {
			if len(list)%3 > 0 || random.IntN(3) == 0 {
				a[k] = random.IntN(2*most+1) - most
			}
		}
		list = append(list, a)
	}
	return list
}

// isWithin reports whether the elements of a are from -most to most.
func isWithin(a []int, most int) bool { return slices.Max(a) <= most && slices.Min(a) >= -most }

// squares returns for each number modulo p the least number whose square it is, -1
// if there is none.
func squares(p int) []int {
	list := slices.Repeat([]int{-1}, p)
	for x := p - 1; x >= 0; x-- {
		list[x*x%p] = x
	}
	return list
}

// symbolOf returns (a / n) by its definition, prime by prime.
func symbolOf(a, n int) int {
	symbol := 1
	for p := 3; n > 1; p += 2 {
		for n%p == 0 {
			n /= p
			rest := (a%p + p) % p
			switch {
			case rest == 0:
				symbol = 0
			case squares(p)[rest] < 0:
				symbol = -symbol
			}
		}
	}
	return symbol
}

// bigSymbol returns (a / n) for n of any size.
func bigSymbol(a, n int) int { return big.Jacobi(big.NewInt(int64(a)), big.NewInt(int64(n))) }

// pair is the two numbers of a symbol.
type pair struct{ a, n int }

// smallPairs returns all up to an n, a from -2 n to 2 n.
func smallPairs(most int) []pair {
	var list []pair
	for n := 1; n <= most; n += 2 {
		for a := -2 * n; a <= 2*n; a++ {
			list = append(list, pair{a, n})
		}
	}
	return list
}

// largePairs returns those at the ends, and random ones of all sizes: with factors
// in common, with powers of 2, and such whose chains are long.
var largePairs = sync.OnceValue(func() []pair {
	const most = 1_000_000_000
	list := []pair{
		{most, most - 1}, {-most, most - 1}, {most, 1}, {-most, 1}, {0, most - 1}, {1, most - 1}, {-1, most - 1}, {2, most - 1}, {most - 2, most - 1}, {most - 1, most - 1}, {-most + 1, most - 1}, {most, 3}, {-most, 3},
		{1 << 29, most - 1}, {1 << 29, 1<<29 - 1}, {-1 << 29, 1<<29 + 1}, {433494437, 701408733}, {701408733, 433494437}, {267914296, 433494437}, {387420489, 3}, {387420489, 387420489}, {3, 387420489}, {999999937, 999999929}, {999999929, 999999937},
	}
	random := rand.New(rand.NewPCG(8, 2))
	for range 4000 {
		n := random.IntN(most>>random.IntN(25))/2*2 + 1
		a := (random.IntN(most>>random.IntN(25)) + 1) * (1 - random.IntN(2)*2)
		if common := 1 + random.IntN(40)*2; random.IntN(4) == 0 && n <= most/common && max(a, -a) <= most/common {
			n, a = n*common, a*common
		}
		list = append(list, pair{a, n})
	}
	return list
})

// pairs returns both.
func pairs(most int) []pair { return slices.Concat(smallPairs(most), largePairs()) }

// chainOf returns the chain for a and n.
func chainOf(a, n int) []sums.Step {
	var list []sums.Step
	sign := 1
	for a != 0 && n != 1 {
		kind := 2
		if a%2 == 0 {
			kind = 1
		}
		if a < 0 || a > n-1 {
			kind = 0
		}
		switch kind {
		case 0:
			for a < 0 {
				a += (-a/n + 1) * n
			}
			a %= n
		case 1:
			a /= 2
			if n&7 == 3 || n&7 == 5 {
				sign = -sign
			}
		case 2:
			a, n = n, a
			if a&3 == 3 && n&3 == 3 {
				sign = -sign
			}
		}
		list = append(list, sums.Step{Kind: kind, A: a, N: n, Sign: sign})
	}
	return list
}

// cycleSign returns the sign of the order a 0, a 1, .. modulo n: -1 for each of its
// cycles of even length.
func cycleSign(a, n int) int {
	sign := 1
	seen := make([]bool, n)
	for i := range n {
		length := 0
		for x := i; !seen[x]; x = a * x % n {
			seen[x] = true
			length++
		}
		if length > 0 && length%2 == 0 {
			sign = -sign
		}
	}
	return sign
}

// is checks a list that is to be found.
func is[T comparable](t *testing.T, got []T, e api.Errno, want []T, call string, arguments ...any) {
	t.Helper()
	if e != api.OK || !slices.Equal(got, want) {
		t.Errorf("%s of %v: %v, error %d, not %v", call, arguments, got, e, want)
	}
}

// isOne checks a number that is to be found.
func isOne(t *testing.T, got int, e api.Errno, want int, call string, arguments ...any) {
	t.Helper()
	if e != api.OK || got != want {
		t.Errorf("%s of %v: %d, error %d, not %d", call, arguments, got, e, want)
	}
}

func mustCyclotomic(t *testing.T, n int) []int {
	t.Helper()
	c, e := sums.Cyclotomic(n)
	if e != api.OK {
		t.Fatalf("Cyclotomic(%d): error %d", n, e)
	}
	return c
}

func mustAdd(t *testing.T, n int, a, b []int) []int {
	t.Helper()
	c, e := sums.Add(n, a, b)
	if e != api.OK {
		t.Fatalf("Add(%d, %v, %v): error %d", n, a, b, e)
	}
	return c
}

func mustTimes(t *testing.T, n int, a, b []int) []int {
	t.Helper()
	c, e := sums.Times(n, a, b)
	if e != api.OK {
		t.Fatalf("Times(%d, %v, %v): error %d", n, a, b, e)
	}
	return c
}

func mustTurn(t *testing.T, n int, a []int, by int) []int {
	t.Helper()
	c, e := sums.Turn(n, a, by)
	if e != api.OK {
		t.Fatalf("Turn(%d, %v, %d): error %d", n, a, by, e)
	}
	return c
}

func mustNorm(t *testing.T, n int, a []int) int {
	t.Helper()
	x, e := sums.Norm(n, a)
	if e != api.OK {
		t.Fatalf("Norm(%d, %v): error %d", n, a, e)
	}
	return x
}

func mustTrace(t *testing.T, n int, a []int) int {
	t.Helper()
	x, e := sums.Trace(n, a)
	if e != api.OK {
		t.Fatalf("Trace(%d, %v): error %d", n, a, e)
	}
	return x
}

func mustJacobi(t *testing.T, a, n int) int {
	t.Helper()
	s, e := sums.Jacobi(a, n)
	if e != api.OK {
		t.Fatalf("Jacobi(%d, %d): error %d", a, n, e)
	}
	return s
}

func mustChain(t *testing.T, a, n int) []sums.Step {
	t.Helper()
	l, e := sums.Chain(a, n)
	if e != api.OK {
		t.Fatalf("Chain(%d, %d): error %d", a, n, e)
	}
	return l
}

func mustGauss(t *testing.T, p int) []int {
	t.Helper()
	a, e := sums.Gauss(p)
	if e != api.OK {
		t.Fatalf("Gauss(%d): error %d", p, e)
	}
	return a
}

func mustTurns(t *testing.T, a, n int) int {
	t.Helper()
	s, e := sums.Turns(a, n)
	if e != api.OK {
		t.Fatalf("Turns(%d, %d): error %d", a, n, e)
	}
	return s
}

func mustPoints(t *testing.T, p, q int) int {
	t.Helper()
	n, e := sums.Points(p, q)
	if e != api.OK {
		t.Fatalf("Points(%d, %d): error %d", p, q, e)
	}
	return n
}

func mustLeast(t *testing.T, p int) int {
	t.Helper()
	n, e := sums.Least(p)
	if e != api.OK {
		t.Fatalf("Least(%d): error %d", p, e)
	}
	return n
}
