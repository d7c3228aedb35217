package shares_test

import (
	"math/big"
	"slices"
	"testing"

	"gherkin/api"
	"gherkin/shares"
)

// P5.8
func TestGreedyGrowsFast(t *testing.T) {
	accepted := 0
	for _, s := range allShares() {
		l, ok := mustGreedy(t, s)
		if !ok {
			continue
		}
		if len(l) < 1 || len(l) > s.a || !s.isSum(l) {
			t.Errorf("Greedy(%d, %d): %v", s.a, s.b, l)
		}
		for i, d := range l {
			// Without the product, which could be too great for an int.
			if i > 0 && (d-1)/l[i-1] < l[i-1]-1 {
				t.Errorf("Greedy(%d, %d): %v", s.a, s.b, l)
			}
		}
		small := len(l) <= 8 && l[len(l)-1] <= 1_000_000
		if accepts(t, s, l) != small {
			t.Errorf("Check(%d, %d, %v): not %t", s.a, s.b, l, small)
		}
		if small {
			accepted++
		}
	}
	if accepted < 1000 {
		t.Errorf("only %d sums are accepted", accepted)
	}
}

// P5.8
func TestEngelSumsToTheShare(t *testing.T) {
	for _, s := range allShares() {
		u := mustEngel(t, s)
		if len(u) < 1 || len(u) > s.a || !slices.IsSorted(u) {
			t.Errorf("Engel(%d, %d): %v", s.a, s.b, u)
		}
		sum, product := new(big.Rat), big.NewInt(1)
		for _, n := range u {
			product.Mul(product, big.NewInt(int64(n)))
			sum.Add(sum, new(big.Rat).SetFrac(big.NewInt(1), product))
		}
		if sum.Cmp(s.rat()) != 0 {
			t.Errorf("Engel(%d, %d): %v has the sum %v", s.a, s.b, u, sum)
		}
	}
}

// someLimits returns values of most, rising.
func someLimits() []int {
	return []int{2, 3, 4, 6, 10, 12, 20, 30, 42, 59, 60, 61, 90, 150, 210, 299, 300}
}

// P5.9
func TestCheckAcceptsShort(t *testing.T) {
	found := 0
	for _, s := range allShares() {
		greedy, ok := mustGreedy(t, s)
		for terms := 1; terms <= 4; terms++ {
			for _, most := range someLimits() {
				l, e := shares.Short(s.a, s.b, terms, most)
				comparable := ok && greedy[len(greedy)-1] <= most
				if e != api.OK {
					if e != api.ErrNone || comparable && len(greedy) <= terms {
						t.Errorf("Short(%d, %d, %d, %d): error %d", s.a, s.b, terms, most, e)
					}
					continue
				}
				found++
				if !accepts(t, s, l) || len(l) > terms || l[len(l)-1] > most || comparable && len(l) > len(greedy) {
					t.Errorf("Short(%d, %d, %d, %d): %v", s.a, s.b, terms, most, l)
				}
			}
		}
	}
	if found < 10_000 {
		t.Errorf("only %d sums", found)
	}
}

// P5.9
func TestMoreIsNeverNone(t *testing.T) {
	limits := someLimits()
	for _, s := range allShares() {
		for terms := 1; terms <= 4; terms++ {
			for i, most := range limits {
				if _, e := shares.Short(s.a, s.b, terms, most); e != api.OK {
					continue
				}
				for _, c := range [][2]int{{min(terms+1, 4), most}, {terms, limits[min(i+1, len(limits)-1)]}, {4, 300}} {
					if _, e := shares.Short(s.a, s.b, c[0], c[1]); e != api.OK {
						t.Errorf("Short(%d, %d, %d, %d): error %d, but not so with %d, %d", s.a, s.b, c[0], c[1], e, terms, most)
					}
				}
			}
		}
	}
}

// P5.10
func TestPracticalNumbersAreEven(t *testing.T) {
	count := 0
	for n := 1; n <= 2000; n++ {
		if !mustPractical(t, n) {
			continue
		}
		count++
		sum := sumOf(divisors(n))
		if n > 1 && n%2 != 0 || n > 2 && n%4 != 0 && n%6 != 0 {
			t.Errorf("Practical(%d)", n)
		}
		for m := 1; m <= sum+1 && n*m <= 2000; m++ {
			if !mustPractical(t, n*m) {
				t.Errorf("Practical(%d), but not %d times that", n, m)
			}
		}
	}
	if count < 300 {
		t.Errorf("only %d practical numbers", count)
	}
}

// P5.10
func TestPracticalNumbersHaveAllParts(t *testing.T) {
	for n := 1; n <= 2000; n++ {
		all, beyond, sum := true, true, sumOf(divisors(n))
		for m := 1; m <= sum; m++ {
			l, e := shares.Parts(n, m)
			if e == api.OK && (sumOf(l) != m || !partsOf(n, l)) || e != api.OK && e != api.ErrNone {
				t.Errorf("Parts(%d, %d): %v, error %d", n, m, l, e)
			}
			all = all && (m > n || e == api.OK)
			beyond = beyond && e == api.OK
		}
		if ok := mustPractical(t, n); ok != all || ok != beyond {
			t.Errorf("Practical(%d): %t, but Parts is always OK: %t, and above it: %t", n, ok, all, beyond)
		}
	}
}

// partsOf reports whether l has different divisors of n, falling.
func partsOf(n int, l []int) bool {
	for i, d := range l {
		if d < 1 || n%d != 0 || i > 0 && d >= l[i-1] {
			return false
		}
	}
	return len(l) > 0
}

// P5.11
func TestPracticalShares(t *testing.T) {
	for b := 2; b <= 60; b++ {
		if !mustPractical(t, b) {
			continue
		}
		for a := 1; a < b; a++ {
			divisors, e := shares.Parts(b, a)
			var l []int
			for _, d := range divisors {
				l = append(l, b/d)
			}
			s := share{a, b}
			if e != api.OK || !s.isSum(l) || accepts(t, s, l) != (len(l) <= 8) {
				t.Errorf("Parts(%d, %d): %v, error %d", b, a, divisors, e)
			}
		}
	}
}

// P5.12
func TestThreeIsAlwaysThere(t *testing.T) {
	for n := 2; n <= 300; n++ {
		l, e := shares.Three(n)
		if e != api.OK || l[0] < 1 || l[0] > l[1] || l[1] > l[2] || total(l[:]).Cmp(big.NewRat(4, int64(n))) != 0 {
			t.Errorf("Three(%d): %v, error %d", n, l, e)
		}
	}
}

// sumsOf returns sums for a share that the package finds, with any number of
// terms.
func sumsOf(t *testing.T, s share) [][]int {
	t.Helper()
	var list [][]int
	if l, ok := mustGreedy(t, s); ok {
		list = append(list, l)
	}
	for terms := 1; terms <= 4; terms++ {
		for _, most := range someLimits() {
			if l, e := shares.Short(s.a, s.b, terms, most); e == api.OK {
				list = append(list, l)
			}
		}
	}
	if low := s.lowest(); low.a == 1 {
		if pair, e := shares.Split(low.b); e == api.OK {
			list = append(list, pair[:])
		}
	}
	return list
}

// P5.13
func TestFirstDenominatorsHaveABound(t *testing.T) {
	for _, s := range allShares() {
		bounds := map[int]int{}
		for terms := 1; terms <= 3; terms++ {
			if n, e := shares.Bound(s.a, s.b, terms); e == api.OK {
				bounds[terms] = n
			}
		}
		for terms, n := range bounds {
			if n < 2 || n*s.a > terms*s.b {
				t.Errorf("Bound(%d, %d, %d): %d", s.a, s.b, terms, n)
			}
		}
		for _, l := range sumsOf(t, s) {
			if l[0]*s.a > len(l)*s.b || len(l) <= 3 && l[0] > bounds[len(l)] {
				t.Errorf("%v sums to %d/%d, but the bounds are %v", l, s.a, s.b, bounds)
			}
		}
	}
}

// P5.6: the greatest first denominator of two is that of the least second one.
func TestSplitHasTheFirstDenominatorOfBound(t *testing.T) {
	for d := 2; d <= 60; d++ {
		l, e := shares.Split(d)
		n, f := shares.Bound(1, d, 2)
		if l[0] != n || e != api.OK || f != api.OK || !(share{1, d}).isSum(l[:]) {
			t.Errorf("Split(%d): %v, but Bound: %d; errors %d and %d", d, l, n, e, f)
		}
	}
}
