package sums_test

import (
	"slices"
	"testing"

	"gherkin/api"
	"gherkin/sums"
)

var gaussPrimes = []int{3, 5, 7, 11, 13}

// P8.1
func TestCyclotomicExamples(t *testing.T) {
	for n, want := range map[int][]int{
		1: {-1, 1}, 2: {1, 1}, 3: {1, 1, 1}, 4: {1, 0, 1}, 5: {1, 1, 1, 1, 1}, 6: {1, -1, 1}, 8: {1, 0, 0, 0, 1}, 9: {1, 0, 0, 1, 0, 0, 1}, 10: {1, -1, 1, -1, 1}, 12: {1, 0, -1, 0, 1},
		15: {1, -1, 0, 1, -1, 1, 0, -1, 1}, 30: {1, 1, 0, -1, -1, -1, 0, 1, 1}, 60: {1, 0, 1, 0, 0, 0, -1, 0, -1, 0, -1, 0, 0, 0, 1, 0, 1},
	} {
		c, e := sums.Cyclotomic(n)
		is(t, c, e, want, "Cyclotomic", n)
	}
}

// P8.1: the products are all that the definition asks for.
func TestCyclotomicProducts(t *testing.T) {
	for n := 1; n <= 60; n++ {
		all := []int{1}
		for d := 1; d <= n; d++ {
			if n%d == 0 {
				all = product(all, mustCyclotomic(t, d))
			}
		}
		want := make([]int, n+1)
		want[0], want[n] = -1, 1
		if !slices.Equal(all, want) {
			t.Errorf("the product for %d is %v", n, all)
		}
	}
}

// P8.2
func TestSumExamples(t *testing.T) {
	a, e := sums.Add(3, []int{0, 1}, []int{2, 1})
	is(t, a, e, []int{2, 2}, "Add", 3)
	a, e = sums.Add(1, []int{1000}, []int{-1000})
	is(t, a, e, []int{0}, "Add", 1)
	a, e = sums.Times(3, []int{0, 1}, []int{0, 1})
	is(t, a, e, []int{-1, -1}, "Times", 3)
	a, e = sums.Times(1, []int{1000}, []int{-1000})
	is(t, a, e, []int{-1_000_000}, "Times", 1)
	a, e = sums.Times(2, []int{7}, []int{-3})
	is(t, a, e, []int{-21}, "Times", 2)
	a, e = sums.Times(4, []int{1, 1}, []int{1, -1})
	is(t, a, e, []int{2, 0}, "Times", 4)
	a, e = sums.Turn(1, []int{-9}, 1)
	is(t, a, e, []int{-9}, "Turn", 1)
	a, e = sums.Turn(2, []int{-9}, 1)
	is(t, a, e, []int{-9}, "Turn", 2)
	a, e = sums.Turn(4, []int{2, 3}, 3)
	is(t, a, e, []int{2, -3}, "Turn", 4)
	a, e = sums.Turn(5, []int{0, 1, 0, 0}, 4)
	is(t, a, e, []int{-1, -1, -1, -1}, "Turn", 5)
}

// P8.2
func TestSumsAndProducts(t *testing.T) {
	for n := 1; n <= api.MaxRoot; n++ {
		list := append(numbers(n, 1000, 12), numbers(n, 3, 12)[3:]...)
		for _, a := range list {
			for _, b := range list {
				sum, e := sums.Add(n, a, b)
				if e != api.OK || !isNumber(n, sum, func(f field, t int) int { return f.value(n, a, t) + f.value(n, b, t) }) {
					t.Errorf("Add(%d, %v, %v): %v, error %d", n, a, b, sum, e)
				}
				times, e := sums.Times(n, a, b)
				if e != api.OK || !isNumber(n, times, func(f field, t int) int { return f.value(n, a, t) * f.value(n, b, t) }) {
					t.Errorf("Times(%d, %v, %v): %v, error %d", n, a, b, times, e)
				}
			}
		}
	}
}

// P8.2
func TestTurned(t *testing.T) {
	for n := 1; n <= api.MaxRoot; n++ {
		for _, a := range numbers(n, 1000, 30) {
			for _, by := range turnsOf(n) {
				turned, e := sums.Turn(n, a, by)
				if e != api.OK || !isNumber(n, turned, func(f field, t int) int { return f.value(n, a, by*t) }) {
					t.Errorf("Turn(%d, %v, %d): %v, error %d", n, a, by, turned, e)
				}
			}
		}
	}
}

// P8.3
func TestNormAndTraceExamples(t *testing.T) {
	x, e := sums.Norm(3, []int{1, -1})
	isOne(t, x, e, 3, "Norm", 3)
	x, e = sums.Norm(1, []int{-2})
	isOne(t, x, e, -2, "Norm", 1)
	x, e = sums.Norm(2, []int{2})
	isOne(t, x, e, 2, "Norm", 2)
	x, e = sums.Norm(4, []int{2, 1})
	isOne(t, x, e, 5, "Norm", 4)
	// The turned ones of 2 are twelve.
	x, e = sums.Norm(13, append([]int{2}, make([]int, 11)...))
	isOne(t, x, e, 4096, "Norm", 13)
	x, e = sums.Trace(5, []int{1, 1, 0, 0})
	isOne(t, x, e, 3, "Trace", 5)
	x, e = sums.Trace(1, []int{-1000})
	isOne(t, x, e, -1000, "Trace", 1)
	x, e = sums.Trace(4, []int{1000, 7})
	isOne(t, x, e, 2000, "Trace", 4)
}

// P8.3
func TestNorms(t *testing.T) {
	large := 0
	for n := 1; n <= api.MaxRoot; n++ {
		for _, a := range numbers(n, 2, 300) {
			x, e := sums.Norm(n, a)
			if x > 100_000_000 {
				large++
			}
			if e != api.OK || !isWhole(x, func(f field) int {
				all := 1
				for _, t := range turnsOf(n) {
					all = all * f.value(n, a, t) % f.q
				}
				return all
			}) {
				t.Errorf("Norm(%d, %v): %d, error %d", n, a, x, e)
			}
		}
	}
	if large < 10 {
		t.Errorf("only %d large norms", large)
	}
}

// P8.3
func TestTraces(t *testing.T) {
	for n := 1; n <= api.MaxRoot; n++ {
		for _, a := range numbers(n, 1000, 100) {
			x, e := sums.Trace(n, a)
			if e != api.OK || !isWhole(x, func(f field) int {
				all := 0
				for _, t := range turnsOf(n) {
					all += f.value(n, a, t)
				}
				return all
			}) {
				t.Errorf("Trace(%d, %v): %d, error %d", n, a, x, e)
			}
		}
	}
}

// P8.4
func TestSymbolExamples(t *testing.T) {
	for x, want := range map[pair]int{
		{2, 7}: 1, {3, 7}: -1, {0, 1}: 1, {0, 7}: 0, {-1, 3}: -1, {1001, 9907}: -1, {6, 15}: 0, {19, 45}: 1, {2, 15}: 1, {-1000, 1}: 1, {1_000_000_000, 1}: 1, {0, 999_999_999}: 0, {5, 9}: 1, {3, 9}: 0, {1, 3}: 1,
	} {
		s, e := sums.Jacobi(x.a, x.n)
		isOne(t, s, e, want, "Jacobi", x)
	}
}

// P8.4
func TestSymbols(t *testing.T) {
	for _, x := range smallPairs(127) {
		s, e := sums.Jacobi(x.a, x.n)
		isOne(t, s, e, symbolOf(x.a, x.n), "Jacobi", x)
	}
	counts := map[int]int{}
	for _, x := range largePairs() {
		s, e := sums.Jacobi(x.a, x.n)
		isOne(t, s, e, bigSymbol(x.a, x.n), "Jacobi", x)
		counts[s]++
	}
	if counts[-1] < 1000 || counts[0] < 500 || counts[1] < 1000 {
		t.Errorf("only %v symbols", counts)
	}
}

// P8.4
func TestChainExamples(t *testing.T) {
	for _, x := range []struct {
		pair
		want []sums.Step
	}{
		{pair{2, 7}, []sums.Step{{Kind: 1, A: 1, N: 7, Sign: 1}, {Kind: 2, A: 7, N: 1, Sign: 1}}},
		{pair{3, 7}, []sums.Step{{Kind: 2, A: 7, N: 3, Sign: -1}, {Kind: 0, A: 1, N: 3, Sign: -1}, {Kind: 2, A: 3, N: 1, Sign: -1}}},
		{pair{0, 1}, nil}, {pair{5, 1}, nil}, {pair{-6, 1}, nil}, {pair{0, 9}, nil},
		{pair{9, 9}, []sums.Step{{Kind: 0, A: 0, N: 9, Sign: 1}}},
		{pair{-1, 3}, []sums.Step{{Kind: 0, A: 2, N: 3, Sign: 1}, {Kind: 1, A: 1, N: 3, Sign: -1}, {Kind: 2, A: 3, N: 1, Sign: -1}}},
		{pair{6, 9}, []sums.Step{{Kind: 1, A: 3, N: 9, Sign: 1}, {Kind: 2, A: 9, N: 3, Sign: 1}, {Kind: 0, A: 0, N: 3, Sign: 1}}},
		{pair{4, 5}, []sums.Step{{Kind: 1, A: 2, N: 5, Sign: -1}, {Kind: 1, A: 1, N: 5, Sign: 1}, {Kind: 2, A: 5, N: 1, Sign: 1}}},
	} {
		l, e := sums.Chain(x.a, x.n)
		is(t, l, e, x.want, "Chain", x.pair)
	}
}

// P8.4
func TestChains(t *testing.T) {
	for _, x := range pairs(99) {
		l, e := sums.Chain(x.a, x.n)
		is(t, l, e, chainOf(x.a, x.n), "Chain", x)
	}
}

// P8.4: each step keeps the symbol, but for the sign.
func TestChainsKeepTheSymbol(t *testing.T) {
	for _, x := range pairs(51) {
		want := bigSymbol(x.a, x.n)
		for _, s := range mustChain(t, x.a, x.n) {
			if s.Sign*bigSymbol(s.A, s.N) != want {
				t.Errorf("Chain(%d, %d): %v, but the symbol is %d", x.a, x.n, s, want)
			}
		}
	}
}

// refutes checks that l is not accepted as the chain.
func refutes(t *testing.T, x pair, l []sums.Step) {
	t.Helper()
	if s, ok, e := sums.CheckChain(x.a, x.n, l); s != 0 || ok || e != api.OK {
		t.Errorf("CheckChain(%d, %d, %v): %d %t, error %d", x.a, x.n, l, s, ok, e)
	}
}

// P8.4
func TestCheckChainTakesTheChain(t *testing.T) {
	for _, x := range pairs(99) {
		s, ok, e := sums.CheckChain(x.a, x.n, chainOf(x.a, x.n))
		if s != bigSymbol(x.a, x.n) || !ok || e != api.OK {
			t.Errorf("CheckChain(%d, %d) of the chain: %d %t, error %d", x.a, x.n, s, ok, e)
		}
	}
	for x, want := range map[pair]int{{0, 1}: 1, {8, 1}: 1, {0, 3}: 0, {0, 999_999_999}: 0} {
		for _, l := range [][]sums.Step{nil, {}} {
			if s, ok, e := sums.CheckChain(x.a, x.n, l); s != want || !ok || e != api.OK {
				t.Errorf("CheckChain(%d, %d) of no steps: %d %t, error %d", x.a, x.n, s, ok, e)
			}
		}
	}
}

// P8.4
func TestCheckChainTakesNothingElse(t *testing.T) {
	list := append(smallPairs(15), largePairs()[:60]...)
	for i, x := range list {
		chain := chainOf(x.a, x.n)
		refutes(t, x, append(slices.Clone(chain), sums.Step{}))
		refutes(t, x, append(slices.Clone(chain), sums.Step{Kind: 2, A: x.n, N: 1, Sign: 1}))
		refutes(t, x, append([]sums.Step{{A: x.a, N: x.n, Sign: 1}}, chain...))
		refutes(t, x, append(slices.Clone(chain), make([]sums.Step, 1000)...))
		for j, s := range chain {
			refutes(t, x, chain[:j])
			refutes(t, x, chain[j+1:])
			refutes(t, x, slices.Insert(slices.Clone(chain), j, s))
			refutes(t, x, slices.Delete(slices.Clone(chain), j, j+1))
			for _, other := range changed(s) {
				l := slices.Clone(chain)
				l[j] = other
				refutes(t, x, l)
			}
		}
		if next := list[(i+1)%len(list)]; !slices.Equal(chainOf(next.a, next.n), chain) {
			refutes(t, x, chainOf(next.a, next.n))
		}
	}
}

// changed returns steps that differ from s in one number.
func changed(s sums.Step) []sums.Step {
	var list []sums.Step
	for _, by := range []int{1, -1, 2, -2, s.N, -s.N, 1 << 32, -1 << 63} {
		list = append(list,
			sums.Step{Kind: s.Kind + by, A: s.A, N: s.N, Sign: s.Sign}, sums.Step{Kind: s.Kind, A: s.A + by, N: s.N, Sign: s.Sign},
			sums.Step{Kind: s.Kind, A: s.A, N: s.N + by, Sign: s.Sign}, sums.Step{Kind: s.Kind, A: s.A, N: s.N, Sign: s.Sign + by},
		)
	}
	return append(list, sums.Step{Kind: s.Kind, A: s.A, N: s.N, Sign: -s.Sign}, sums.Step{Kind: s.Kind, A: s.N, N: s.A, Sign: -s.Sign}, sums.Step{})
}

// P8.5
func TestGauss(t *testing.T) {
	a, e := sums.Gauss(3)
	is(t, a, e, []int{1, 2}, "Gauss", 3)
	a, e = sums.Gauss(5)
	is(t, a, e, []int{-1, 0, -2, -2}, "Gauss", 5)
	for _, p := range gaussPrimes {
		a, e := sums.Gauss(p)
		if e != api.OK || !isNumber(p, a, func(f field, t int) int {
			sum := 0
			for x := 1; x < p; x++ {
				sum += symbolOf(x, p) * f.power(f.root[p], t*x)
			}
			return sum
		}) {
			t.Errorf("Gauss(%d): %v, error %d", p, a, e)
		}
	}
}

// P8.6
func TestTurns(t *testing.T) {
	counts := map[int]int{}
	for n := 1; n <= 200; n++ {
		for a := range n {
			if divisor(a, n) == 1 {
				s, e := sums.Turns(a, n)
				isOne(t, s, e, cycleSign(a, n), "Turns", a, n)
				counts[s]++
			}
		}
	}
	if counts[-1] < 3000 || counts[1] < 3000 {
		t.Errorf("only %v signs", counts)
	}
	for x, want := range map[pair]int{{0, 1}: 1, {1, 2}: 1, {1, 3}: 1, {2, 3}: -1, {3, 4}: -1, {2, 5}: -1, {4, 5}: 1, {3, 8}: -1, {5, 8}: 1, {199, 200}: -1} {
		s, e := sums.Turns(x.a, x.n)
		isOne(t, s, e, want, "Turns", x)
	}
}

// P8.7
func TestPoints(t *testing.T) {
	for _, p := range oddPrimes(200) {
		for _, q := range oddPrimes(200) {
			if p == q {
				continue
			}
			want := 0
			for x := 1; 2*x < p; x++ {
				for y := 1; 2*y < q; y++ {
					if p*y < q*x {
						want++
					}
				}
			}
			n, e := sums.Points(p, q)
			isOne(t, n, e, want, "Points", p, q)
		}
	}
	for x, want := range map[pair]int{{3, 5}: 1, {5, 3}: 1, {3, 7}: 2, {7, 3}: 1, {5, 7}: 3, {7, 5}: 3, {7, 11}: 8, {11, 7}: 7, {3, 199}: 66} {
		n, e := sums.Points(x.a, x.n)
		isOne(t, n, e, want, "Points", x)
	}
}

// P8.8
func TestRoot(t *testing.T) {
	x, e := sums.Root(2, 7)
	isOne(t, x, e, 3, "Root", 2, 7)
	for _, p := range append(oddPrimes(200), 1009, 9967, 9973) {
		for a, want := range squares(p) {
			x, e := sums.Root(a, p)
			if want >= 0 {
				isOne(t, x, e, want, "Root", a, p)
			} else if x != 0 || e != api.ErrNone {
				t.Errorf("Root(%d, %d): %d, error %d", a, p, x, e)
			}
		}
	}
}

// P8.8
func TestLeast(t *testing.T) {
	for p, want := range map[int]int{3: 2, 5: 2, 7: 3, 17: 3, 23: 5, 71: 7, 311: 11, 479: 13, 1559: 17, 5711: 19, 9973: 2} {
		n, e := sums.Least(p)
		isOne(t, n, e, want, "Least", p)
	}
	for _, p := range oddPrimes(10_000) {
		n, e := sums.Least(p)
		isOne(t, n, e, slices.Index(squares(p), -1), "Least", p)
	}
}
