package covers_test

import (
	"math/big"
	"math/rand/v2"
	"slices"
	"testing"

	"gherkin/api"
	"gherkin/covers"
)

// sum returns the sum of all 1/m.
func sum(l [][2]int) *big.Rat {
	total := new(big.Rat)
	for _, pair := range l {
		total.Add(total, big.NewRat(1, int64(pair[1])))
	}
	return total
}

// P4.7
func TestCoveringSystemsHaveTheSum1OrMore(t *testing.T) {
	one := big.NewRat(1, 1)
	equal, greater := 0, 0
	for _, l := range systems() {
		covers := covering(t, l)
		if share := mustShare(t, l); (share == api.Frac{Num: 1, Den: 1}) != covers {
			t.Errorf("Share(%v): %v, but covering: %t", l, share, covers)
		}
		if !covers {
			continue
		}
		order := sum(l).Cmp(one)
		if order < 0 || order == 0 != disjoint(t, l) {
			t.Errorf("%v has the sum %v and is exact: %t", l, sum(l), disjoint(t, l))
		}
		if order == 0 {
			equal++
		} else {
			greater++
		}
	}
	if equal < 100 || greater < 100 {
		t.Errorf("only %d systems are exact, and %d others cover", equal, greater)
	}
}

// P4.8
func TestTheGreatestModulusComesOften(t *testing.T) {
	count := 0
	for _, l := range systems() {
		if len(l) < 2 || !covering(t, l) || !disjoint(t, l) {
			continue
		}
		count++
		greatest := slices.Max(moduliOf(l))
		factor := 2
		for greatest%factor != 0 {
			factor++
		}
		times := 0
		for _, m := range moduliOf(l) {
			if m == greatest {
				times++
			}
		}
		if times < factor {
			t.Errorf("%v is exact, but has %d only %d times", l, greatest, times)
		}
	}
	if count < 100 {
		t.Errorf("only %d systems are exact", count)
	}
}

// P4.8: what Fit finds with the sum 1 is exact, so there is none whose greatest
// modulus comes once.
func TestFitFindsNoExactSystemWithAGreatestModulusOnce(t *testing.T) {
	count := 0
	for _, m := range slices.Concat(atMost(2, 12), atMost(3, 12), atMost(4, 6), listsOf(5, []int{2, 3, 4, 6}), someModuli()) {
		l, e := covers.Fit(m)
		if e == api.ErrNone || sum(l).Cmp(big.NewRat(1, 1)) != 0 {
			continue
		}
		count++
		rising := slices.Sorted(slices.Values(m))
		if rising[len(m)-1] != rising[len(m)-2] || !covering(t, l) || !disjoint(t, l) {
			t.Errorf("Fit(%v): %v", m, l)
		}
	}
	if count < 30 {
		t.Errorf("only %d systems are exact", count)
	}
}

// P4.9
func TestRefineChangesNoNumber(t *testing.T) {
	count := 0
	for _, l := range systems() {
		left, leftE := covers.Left(l)
		twice, twiceE := covers.Twice(l)
		share := mustShare(t, l)
		for i := range l {
			for r := 2; r <= 5; r++ {
				result, e := covers.Refine(l, i, r)
				if e != api.OK {
					continue
				}
				count++
				newLeft, newLeftE := covers.Left(result)
				newTwice, newTwiceE := covers.Twice(result)
				if newLeft != left || newLeftE != leftE || newTwice != twice || newTwiceE != twiceE || mustShare(t, result) != share {
					t.Errorf("Refine(%v, %d, %d): %v", l, i, r, result)
				}
			}
		}
	}
	if count < 1000 {
		t.Errorf("only %d results are systems", count)
	}
}

// P4.10
func TestPairsAreDisjointIfTheirFactorParts(t *testing.T) {
	for _, l := range systems() {
		apart := true
		for i, x := range l {
			for _, y := range l[:i] {
				common := new(big.Int).GCD(nil, nil, big.NewInt(int64(x[1])), big.NewInt(int64(y[1])))
				difference := big.NewInt(int64(x[0] - y[0]))
				apart = apart && difference.Mod(difference, common).Sign() != 0
			}
		}
		if disjoint(t, l) != apart {
			t.Errorf("Twice(%v): ErrNone: %t, but the pairs are apart: %t", l, !apart, apart)
		}
	}
}

// P4.11
func TestTheOrderOfModuliDoesNotMatter(t *testing.T) {
	random := rand.New(rand.NewPCG(4, 5))
	oks := [2]int{}
	for _, m := range slices.Concat(someModuli(), atMost(3, 8), listsOf(4, []int{2, 3, 4, 6})) {
		other := slices.Clone(m)
		random.Shuffle(len(m), func(i, j int) { other[i], other[j] = other[j], other[i] })
		for i, f := range []func([]int) ([][2]int, api.Errno){covers.Choose, covers.Fit} {
			_, e := f(m)
			if _, g := f(other); e != g || e != api.OK && e != api.ErrNone {
				t.Errorf("%d: errors %d for %v, %d for %v", i, e, m, g, other)
			}
			if e == api.OK {
				oks[i]++
			}
		}
	}
	if oks[0] < 100 || oks[1] < 50 {
		t.Errorf("%d systems cover, and %d fit", oks[0], oks[1])
	}
}

// P4.4, P4.11: with 7 moduli there is a result soon, for any moduli in any order.
func TestSevenModuli(t *testing.T) {
	random := rand.New(rand.NewPCG(4, 6))
	list := [][]int{{11, 11, 11, 11, 11, 7, 2}, {11, 11, 11, 11, 11, 11, 2}, {12, 12, 12, 12, 12, 12, 12}, {12, 11, 10, 9, 8, 7, 6}, {9, 10, 8, 2, 4, 12, 12}}
	for range 200 {
		var m []int
		for range 7 {
			m = append(m, 2+random.IntN(11))
		}
		list = append(list, m)
	}
	for _, m := range list {
		l, e := covers.Choose(m)
		if e == api.OK && (!slices.Equal(moduliOf(l), m) || !covering(t, l)) {
			t.Errorf("Choose(%v): %v", m, l)
		}
		if e == api.ErrArg && multiple(m) <= 10080 {
			t.Errorf("Choose(%v): error %d", m, e)
		}
		l, e = covers.Fit(m)
		if e == api.OK && (!slices.Equal(moduliOf(l), m) || !disjoint(t, l)) {
			t.Errorf("Fit(%v): %v", m, l)
		}
		if e == api.ErrArg && multiple(m) <= 10080 {
			t.Errorf("Fit(%v): error %d", m, e)
		}
	}
}

// P4.12
func TestAlwaysMeansComposite(t *testing.T) {
	count := 0
	for _, c := range numbersWithPrimes() {
		if _, e := covers.Always(c.k, c.primes); e != api.ErrNone {
			continue
		}
		count++
		days, e := covers.Days(c.k, c.primes)
		if e != api.OK || !covering(t, days) {
			t.Errorf("Days(%d, %v): %v, error %d; they do not cover", c.k, c.primes, days, e)
		}
		for n := 1; n <= 200; n++ {
			x := number(c.k, n)
			if x.Cmp(big.NewInt(int64(slices.Max(c.primes)))) > 0 && x.ProbablyPrime(5) {
				t.Errorf("%d 2^%d + 1 is prime", c.k, n)
			}
		}
	}
	if count < len(sierpinski) {
		t.Errorf("only %d times there is always a divisor", count)
	}
}

// P4.12: days do not cover if there is a number without a divisor.
func TestDaysCoverIfAndOnlyIfAlways(t *testing.T) {
	for _, c := range numbersWithPrimes() {
		days, e := covers.Days(c.k, c.primes)
		if e != api.OK || len(days) == 0 {
			continue
		}
		if _, f := covers.Always(c.k, c.primes); (f == api.ErrNone) != covering(t, days) {
			t.Errorf("Always(%d, %v): error %d, but the days are %v", c.k, c.primes, f, days)
		}
	}
}

// P4.13
func TestMovingChangesNoShare(t *testing.T) {
	for i, l := range systems() {
		for _, by := range []int{1, 2, 5 + i%53, 10079} {
			other := moved(l, by)
			if mustShare(t, other) != mustShare(t, l) || covering(t, other) != covering(t, l) || disjoint(t, other) != disjoint(t, l) {
				t.Errorf("%v and %v differ", l, other)
			}
		}
	}
}
