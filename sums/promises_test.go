package sums_test

import (
	"slices"
	"testing"

	"gherkin/api"
	"gherkin/sums"
)

// P8.9
func TestProductsInAnyOrder(t *testing.T) {
	valid := 0
	for n := 1; n <= api.MaxRoot; n++ {
		list := append(numbers(n, 4, 14), numbers(n, 1000, 8)[7:]...)
		for _, a := range list {
			for _, b := range list {
				ab := mustTimes(t, n, a, b)
				is(t, ab, api.OK, mustTimes(t, n, b, a), "Times", n, a, b)
				for _, c := range list {
					bc := mustTimes(t, n, b, c)
					if !isWithin(ab, 1000) || !isWithin(bc, 1000) {
						continue
					}
					valid++
					is(t, mustTimes(t, n, ab, c), api.OK, mustTimes(t, n, a, bc), "Times", n, a, b, c)
				}
			}
		}
	}
	if valid < 10_000 {
		t.Errorf("only %d products of three", valid)
	}
}

// P8.9
func TestTurnOfSumsAndProducts(t *testing.T) {
	valid := 0
	for n := 1; n <= api.MaxRoot; n++ {
		list := append(numbers(n, 400, 16), numbers(n, 5, 20)[7:]...)
		for _, by := range turnsOf(n) {
			for _, a := range list {
				for _, b := range list {
					turnedA, turnedB := mustTurn(t, n, a, by), mustTurn(t, n, b, by)
					if !isWithin(turnedA, 1000) || !isWithin(turnedB, 1000) {
						continue
					}
					if sum := mustAdd(t, n, a, b); isWithin(sum, 1000) {
						valid++
						is(t, mustTurn(t, n, sum, by), api.OK, mustAdd(t, n, turnedA, turnedB), "Turn", n, sum, by)
					}
					if times := mustTimes(t, n, a, b); isWithin(times, 1000) {
						valid++
						is(t, mustTurn(t, n, times, by), api.OK, mustTimes(t, n, turnedA, turnedB), "Turn", n, times, by)
					}
				}
			}
		}
	}
	if valid < 30_000 {
		t.Errorf("only %d sums and products", valid)
	}
}

// P8.9
func TestNormOfProducts(t *testing.T) {
	valid := 0
	for n := 1; n <= api.MaxRoot; n++ {
		list := append(numbers(n, 2, 40), numbers(n, 1, 40)...)
		for _, a := range list {
			for _, b := range list {
				times := mustTimes(t, n, a, b)
				if !isWithin(times, 2) {
					continue
				}
				valid++
				isOne(t, mustNorm(t, n, times), api.OK, mustNorm(t, n, a)*mustNorm(t, n, b), "Norm", n, a, b)
			}
		}
	}
	if valid < 10_000 {
		t.Errorf("only %d products", valid)
	}
}

// P8.9
func TestTraceOfSums(t *testing.T) {
	for n := 1; n <= api.MaxRoot; n++ {
		for _, a := range numbers(n, 500, 40) {
			for _, b := range numbers(n, 500, 40) {
				isOne(t, mustTrace(t, n, mustAdd(t, n, a, b)), api.OK, mustTrace(t, n, a)+mustTrace(t, n, b), "Trace", n, a, b)
			}
		}
	}
}

// P8.9
func TestNormOfTheRoot(t *testing.T) {
	for n := 1; n <= api.MaxRoot; n++ {
		if x := mustNorm(t, n, root(n)); x != 1 && x != -1 {
			t.Errorf("Norm of the root of order %d: %d", n, x)
		}
		if n == 1 {
			continue
		}
		less := one(n)
		for k, c := range root(n) {
			less[k] -= c
		}
		isOne(t, mustNorm(t, n, less), api.OK, primeOf(n), "Norm", n, less)
	}
}

// P8.10
func TestCyclotomicDegreesAndValues(t *testing.T) {
	for n := 1; n <= 60; n++ {
		c := mustCyclotomic(t, n)
		value := 0
		for _, x := range c {
			value += x
		}
		want := primeOf(n)
		if n == 1 {
			want = 0
		}
		if len(c)-1 != width(n) || c[len(c)-1] == 0 || value != want {
			t.Errorf("Cyclotomic(%d): %v", n, c)
		}
	}
}

// P8.11
func TestGaussTimesItself(t *testing.T) {
	for _, p := range gaussPrimes {
		a := mustGauss(t, p)
		want := make([]int, p-1)
		want[0] = p
		if p%4 == 3 {
			want[0] = -p
		}
		is(t, mustTimes(t, p, a, a), api.OK, want, "Times", p, a, a)
	}
}

// P8.11
func TestGaussTurned(t *testing.T) {
	for _, p := range gaussPrimes {
		a := mustGauss(t, p)
		for by := 1; by < p; by++ {
			want := slices.Clone(a)
			for k := range want {
				want[k] *= mustJacobi(t, by, p)
			}
			is(t, mustTurn(t, p, a, by), api.OK, want, "Turn", p, a, by)
		}
	}
}

// P8.12
func TestReciprocity(t *testing.T) {
	list := largePairs()
	for m := 1; m <= 301; m += 2 {
		for n := 1; n <= 301; n += 2 {
			list = append(list, pair{m, n})
		}
	}
	checked := 0
	for _, x := range list {
		m, n := max(x.a, -x.a), x.n
		if m%2 == 0 || divisor(m, n) > 1 {
			continue
		}
		checked++
		want := 1
		if m%4 == 3 && n%4 == 3 {
			want = -1
		}
		isOne(t, mustJacobi(t, m, n)*mustJacobi(t, n, m), api.OK, want, "the product of both symbols", m, n)
	}
	if checked < 15_000 {
		t.Errorf("only %d pairs", checked)
	}
}

// P8.12
func TestCheckChainTakesChain(t *testing.T) {
	for _, x := range pairs(151) {
		s, ok, e := sums.CheckChain(x.a, x.n, mustChain(t, x.a, x.n))
		if !ok {
			t.Errorf("CheckChain(%d, %d) of Chain: false", x.a, x.n)
		}
		isOne(t, s, e, mustJacobi(t, x.a, x.n), "CheckChain", x)
	}
}

// P8.13
func TestZolotarev(t *testing.T) {
	for n := 1; n <= 200; n += 2 {
		for a := range n {
			if divisor(a, n) == 1 {
				isOne(t, mustTurns(t, a, n), api.OK, mustJacobi(t, a, n), "Turns", a, n)
			}
		}
	}
}

// P8.14
func TestEisenstein(t *testing.T) {
	for _, p := range oddPrimes(200) {
		for _, q := range oddPrimes(200) {
			if p == q {
				continue
			}
			n := mustPoints(t, p, q)
			isOne(t, mustJacobi(t, q, p), api.OK, 1-n%2*2, "Jacobi", q, p)
			isOne(t, n+mustPoints(t, q, p), api.OK, (p-1)/2*((q-1)/2), "the points on both sides", p, q)
		}
	}
}

// P8.15
func TestRootsAndSymbols(t *testing.T) {
	for i, p := range oddPrimes(10_000) {
		step := 1 + p/40
		if i < 40 {
			step = 1
		}
		for a := 0; a < p; a += step {
			x, e := sums.Root(a, p)
			switch mustJacobi(t, a, p) {
			case -1:
				if x != 0 || e != api.ErrNone {
					t.Errorf("Root(%d, %d): %d, error %d", a, p, x, e)
				}
			default:
				if e != api.OK || (x*x-a)%p != 0 || 2*x > p {
					t.Errorf("Root(%d, %d): %d, error %d", a, p, x, e)
				}
			}
		}
	}
}

// P8.15
func TestLeastIsPrime(t *testing.T) {
	for _, p := range oddPrimes(10_000) {
		if n := mustLeast(t, p); !isPrime(n) {
			t.Errorf("Least(%d): %d", p, n)
		}
	}
}
