package lattice_test

import (
	"math/big"
	"math/rand/v2"
	"slices"
	"testing"

	"gherkin/api"
	"gherkin/lattice"
)

// P7.10
func TestTheSameLatticesHaveTheSameNormalForm(t *testing.T) {
	random := rand.New(rand.NewPCG(7, 10))
	counts := map[bool]int{}
	check := func(a, b [][]int) {
		same := areSame(t, a, b)
		if same != equalRows(mustNormal(t, a), mustNormal(t, b)) {
			t.Errorf("Same(%v, %v): %t", a, b, same)
		}
		counts[same]++
	}
	list := manyBases()
	for i, a := range list {
		for _, b := range list[i:min(i+6, len(list))] {
			if len(a) == len(b) {
				check(a, b)
			}
		}
		if b := otherBasis(random, a, false); b != nil {
			check(a, b)
		}
		if b := otherBasis(random, a, true); b != nil {
			check(a, b)
		}
	}
	if counts[true] < 3000 || counts[false] < 3000 {
		t.Errorf("only %v pairs that are the same and not", counts)
	}
}

// P7.10
func TestTheDiagonalOfTheNormalForm(t *testing.T) {
	for _, b := range manyBases() {
		product := 1
		for i, row := range mustNormal(t, b) {
			product *= row[i]
		}
		if det := mustDet(t, b); product != max(det, -det) {
			t.Errorf("%v: Det %d, the product of the diagonal of Normal is %d", b, det, product)
		}
	}
}

// power2 returns f times 2^n.
func power2(n int, f *big.Rat) *big.Rat { return new(big.Rat).Mul(rat(1<<n, 1), f) }

// P7.11
func TestHeightsAndTheBoundOfThem(t *testing.T) {
	reduced := 0
	for _, b := range manyBases() {
		product, det := rat(1, 1), mustDet(t, b)
		for _, f := range mustHeights(t, b) {
			product.Mul(product, asRat(f))
		}
		if product.Cmp(rat(det*det, 1)) != 0 {
			t.Errorf("%v: Det %d, the product of Heights is %v", b, det, product)
		}
		shortest := rat(norm(mustShortest(t, b)), 1)
		if bound := asRat(mustBound(t, b)); bound.Cmp(shortest) > 0 {
			t.Errorf("%v: Bound %v, Shortest %v", b, bound, shortest)
		}
		if r := mustReduce(t, b); within(r, 20) {
			reduced++
			if bound := asRat(mustBound(t, r)); power2(len(r)-1, bound).Cmp(shortest) < 0 {
				t.Errorf("%v is reduced: Bound %v, Shortest %v", r, bound, shortest)
			}
		}
	}
	if reduced < 2000 {
		t.Errorf("only %d reduced bases", reduced)
	}
}

// P7.12
func TestReduceReduces(t *testing.T) {
	for _, b := range manyBases() {
		r := mustReduce(t, b)
		if norm(r[0]) > norm(mustShortest(t, b))<<(len(b)-1) {
			t.Errorf("Reduce(%v): the first row of %v is long", b, r)
		}
		if !within(r, 20) {
			continue
		}
		ok, e := lattice.Reduced(r)
		if !ok || e != api.OK || !areSame(t, r, b) {
			t.Errorf("Reduce(%v): %v, reduced: %t, error %d", b, r, ok, e)
		}
	}
}

// P7.13
func TestBoundsOfMinkowski(t *testing.T) {
	for _, b := range manyBases() {
		n, det := len(b), mustDet(t, b)
		shortest, minima := norm(mustShortest(t, b)), mustMinima(t, b)
		power, product := 1, 1
		for _, m := range minima {
			power *= shortest
			product *= m
		}
		if power > det*det<<n || product < det*det || product > det*det<<(2*n) {
			t.Errorf("%v: Det %d, Shortest %d, Minima %v", b, det, shortest, minima)
		}
		if !slices.IsSorted(minima) || minima[0] != shortest {
			t.Errorf("%v: Shortest %d, Minima %v", b, shortest, minima)
		}
	}
}

// P7.14
func TestClosestOfTheLattice(t *testing.T) {
	random := rand.New(rand.NewPCG(7, 14))
	members, moved := 0, 0
	for _, b := range manyBases() {
		for _, multiples := range vectors(random, 10, len(b), 4)[2:] {
			v := sum(b, multiples)
			if !within([][]int{v}, 100) {
				continue
			}
			members++
			are(t, mustClosest(t, b, v), api.OK, v, "Closest", b, v)
			for _, to := range vectors(random, 4, len(b), 20) {
				next := plus(to, v)
				if !within([][]int{next}, 100) {
					continue
				}
				moved++
				here, there := mustClosest(t, b, to), mustClosest(t, b, next)
				if norm(minus(here, to)) != norm(minus(there, next)) {
					t.Errorf("Closest(%v, ..) of %v: %v, of %v: %v", b, to, here, next, there)
				}
			}
		}
	}
	if members < 10_000 || moved < 20_000 {
		t.Errorf("only %d vectors of lattices, and %d more with one added", members, moved)
	}
}

// P7.14
func TestNothingIsNearerThanClosest(t *testing.T) {
	random := rand.New(rand.NewPCG(7, 15))
	for _, b := range manyBases() {
		for _, to := range vectors(random, 4, len(b), 100) {
			v := mustClosest(t, b, to)
			distance := norm(minus(v, to))
			for _, multiples := range vectors(random, 8, len(b), 2) {
				if w := plus(v, sum(b, multiples)); norm(minus(w, to)) < distance {
					t.Errorf("Closest(%v, %v): %v, but %v is nearer", b, to, v, w)
				}
			}
			if !has(b, v) {
				t.Errorf("Closest(%v, %v): %v is not in the lattice", b, to, v)
			}
		}
	}
}

// P7.15
func TestThetaBeginsWithTheMinimum(t *testing.T) {
	short := 0
	for _, b := range manyBases() {
		theta, first := mustTheta(t, b, 60), mustMinima(t, b)[0]
		for m, count := range theta {
			if m == 0 && count != 1 || m > 0 && m < first && count != 0 || m == first && count <= 0 {
				t.Errorf("%v: Theta is %v, the first minimum %d", b, theta, first)
			}
		}
		if first <= 60 {
			short++
		}
	}
	if short < 2000 {
		t.Errorf("only %d bases with a first minimum of at most 60", short)
	}
}

// P7.15: so many sums of four squares are there.
func TestSumsOfFourSquares(t *testing.T) {
	unit := [][]int{{1, 0, 0, 0}, {0, 1, 0, 0}, {0, 0, 1, 0}, {0, 0, 0, 1}}
	want := []int{1}
	for m := 1; m <= 60; m++ {
		sum := 0
		for d := 1; d <= m; d++ {
			if m%d == 0 && d%4 > 0 {
				sum += d
			}
		}
		want = append(want, 8*sum)
	}
	are(t, mustTheta(t, unit, 60), api.OK, want, "Theta", unit, 60)
	// Other bases of all whole vectors.
	are(t, mustTheta(t, [][]int{{1, 20, 20, 20}, {0, 1, 20, 20}, {0, 0, -1, 20}, {0, 0, 0, 1}}, 60), api.OK, want, "Theta", 60)
	are(t, mustTheta(t, [][]int{{1, 0, 0, 0}, {20, 1, 0, 0}, {20, 20, 1, 0}, {20, 20, 20, 1}}, 60), api.OK, want, "Theta", 60)
}

// P7.16
func TestInnerProductsWithTheDual(t *testing.T) {
	random := rand.New(rand.NewPCG(7, 16))
	for _, b := range manyBases() {
		det, dual := mustDet(t, b), mustDual(t, b)
		for _, multiples := range vectors(random, 6, len(b), 1000) {
			v := sum(b, multiples)
			for _, row := range dual {
				if inner(v, row)%det != 0 {
					t.Errorf("%v: Det %d, the inner product of %v with %v is %d", b, det, v, row, inner(v, row))
				}
			}
		}
	}
}
