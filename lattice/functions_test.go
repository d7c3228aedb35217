package lattice_test

import (
	"math"
	"math/rand/v2"
	"slices"
	"testing"

	"gherkin/api"
	"gherkin/lattice"
)

// P7.1, P7.3, P7.5, P7.6, P7.7, P7.8, P7.9
func TestExamplesOfTheChapter(t *testing.T) {
	b := [][]int{{2, 0}, {1, 2}}
	if n := mustDet(t, b); n != 4 {
		t.Errorf("Det(%v): %d", b, n)
	}
	if rows := mustNormal(t, b); !equalRows(rows, [][]int{{1, 2}, {0, 4}}) {
		t.Errorf("Normal(%v): %v", b, rows)
	}
	are(t, mustShortest(t, b), api.OK, []int{-2, 0}, "Shortest", b)
	are(t, mustMinima(t, b), api.OK, []int{4, 5}, "Minima", b)
	are(t, mustClosest(t, b, []int{1, 1}), api.OK, []int{1, 2}, "Closest", b)
	are(t, mustHeights(t, b), api.OK, []api.Frac{{Num: 4, Den: 1}, {Num: 4, Den: 1}}, "Heights", b)
	are(t, mustTheta(t, [][]int{{1, 0}, {0, 1}}, 5), api.OK, []int{1, 4, 4, 0, 4, 8}, "Theta", 5)
	if rows := mustDual(t, b); !equalRows(rows, [][]int{{2, -1}, {0, 2}}) {
		t.Errorf("Dual(%v): %v", b, rows)
	}
	if f := mustBound(t, b); f != (api.Frac{Num: 4, Den: 1}) {
		t.Errorf("Bound(%v): %v", b, f)
	}
}

// P7.1
func TestDet(t *testing.T) {
	signs := map[bool]int{}
	for _, b := range manyBases() {
		n := mustDet(t, b)
		if n != determinant(b) {
			t.Errorf("Det(%v): %d, not %d", b, n, determinant(b))
		}
		signs[n > 0]++
	}
	if signs[true] < 500 || signs[false] < 500 {
		t.Errorf("only %v determinants above and below 0", signs)
	}
	greatest := [][]int{{20, 20, 20, 20}, {20, -20, 20, -20}, {20, 20, -20, -20}, {20, -20, -20, 20}}
	if n := mustDet(t, greatest); n != 2_560_000 {
		t.Errorf("Det(%v): %d", greatest, n)
	}
}

// isNormal reports whether the rows have the shape of a normal form.
func isNormal(m [][]int) bool {
	for i, row := range m {
		if len(row) != len(m) || row[i] <= 0 {
			return false
		}
		for j, x := range row {
			if j < i && x != 0 || j > i && (x < 0 || x >= m[j][j]) {
				return false
			}
		}
	}
	return true
}

// P7.1: there is one basis alone of this shape.
func TestNormal(t *testing.T) {
	for _, b := range manyBases() {
		m := mustNormal(t, b)
		if len(m) != len(b) || !isNormal(m) || !sameLattice(m, b) {
			t.Errorf("Normal(%v): %v", b, m)
		}
	}
	list := []struct{ b, want [][]int }{
		{[][]int{{-7}}, [][]int{{7}}},
		{[][]int{{0, -3}, {5, 0}}, [][]int{{5, 0}, {0, 3}}},
		{[][]int{{1, 5}, {0, 3}}, [][]int{{1, 2}, {0, 3}}},
		{[][]int{{1, -1}, {0, 3}}, [][]int{{1, 2}, {0, 3}}},
		{[][]int{{6, 1}, {4, 0}}, [][]int{{2, 1}, {0, 2}}},
		{[][]int{{20, 20, 20, 20}, {20, -20, 20, -20}, {20, 20, -20, -20}, {20, -20, -20, 20}}, [][]int{{20, 20, 20, 20}, {0, 40, 0, 40}, {0, 0, 40, 40}, {0, 0, 0, 80}}},
	}
	for _, x := range list {
		if m := mustNormal(t, x.b); !equalRows(m, x.want) {
			t.Errorf("Normal(%v): %v, not %v", x.b, m, x.want)
		}
	}
}

// otherBasis returns a basis of the same lattice with numbers of at most 20, or,
// if doubled, of a part of it.
func otherBasis(random *rand.Rand, b [][]int, doubled bool) [][]int {
	for range 40 {
		c := slices.Clone(b)
		for range 4 {
			i, j := random.IntN(len(b)), random.IntN(len(b))
			times := random.IntN(5) - 2
			if i == j {
				c[i] = minus(make([]int, len(b)), c[i])
				continue
			}
			next := slices.Clone(c[i])
			for k := range next {
				next[k] += times * c[j][k]
			}
			if within([][]int{next}, 20) {
				c[i] = next
			}
			c[i], c[j] = c[j], c[i]
		}
		if doubled {
			i := random.IntN(len(b))
			c[i] = plus(c[i], c[i])
		}
		if within(c, 20) {
			return c
		}
	}
	return nil
}

// P7.1
func TestSame(t *testing.T) {
	random := rand.New(rand.NewPCG(7, 2))
	counts := map[bool]int{}
	check := func(a, b [][]int) {
		t.Helper()
		want := sameLattice(a, b)
		if areSame(t, a, b) != want || areSame(t, b, a) != want {
			t.Errorf("Same(%v, %v) is not %t", a, b, want)
		}
		counts[want]++
	}
	for i, b := range manyBases() {
		check(b, b)
		if c := otherBasis(random, b, false); c != nil {
			check(b, c)
		}
		if c := otherBasis(random, b, true); c != nil {
			check(b, c)
		}
		if next := manyBases()[(i+1)%len(manyBases())]; len(next) == len(b) {
			check(b, next)
		}
	}
	if counts[true] < 3000 || counts[false] < 3000 {
		t.Errorf("only %v pairs that are the same and not", counts)
	}
	// The determinants are the same, the lattices are not.
	if areSame(t, [][]int{{2, 0}, {0, 3}}, [][]int{{3, 0}, {0, 2}}) || areSame(t, [][]int{{1, 0}, {0, 6}}, [][]int{{1, 1}, {0, 6}}) {
		t.Error("lattices with the same determinant are the same")
	}
}

// P7.2
func TestHas(t *testing.T) {
	random := rand.New(rand.NewPCG(7, 3))
	counts := map[bool]int{}
	for _, b := range manyBases() {
		list := append(vectors(random, 4, len(b), 10_000), vectors(random, 4, len(b), 20)...)
		list = append(list, b...)
		list = append(list, make([]int, len(b)))
		for _, multiples := range vectors(random, 4, len(b), 120) {
			list = append(list, sum(b, multiples))
		}
		for _, v := range list {
			multiples, e := lattice.Has(b, v)
			in := has(b, v)
			counts[in]++
			if !in && (e != api.ErrNone || len(multiples) > 0) {
				t.Errorf("Has(%v, %v): %v, error %d, not ErrNone", b, v, multiples, e)
			}
			if in && (e != api.OK || len(multiples) != len(b) || !slices.Equal(sum(b, multiples), v)) {
				t.Errorf("Has(%v, %v): %v, error %d", b, v, multiples, e)
			}
		}
	}
	if counts[true] < 5000 || counts[false] < 5000 {
		t.Errorf("only %v vectors that are in the lattice and not", counts)
	}
}

// P7.2
func TestHasGivesTheMultiples(t *testing.T) {
	list := []struct {
		b       [][]int
		v, want []int
	}{
		{[][]int{{2, 0}, {1, 2}}, []int{5, 2}, []int{2, 1}},
		{[][]int{{2, 0}, {1, 2}}, []int{0, 0}, []int{0, 0}},
		{[][]int{{-1}}, []int{10_000}, []int{-10_000}},
		{[][]int{{20, 19}, {19, 18}}, []int{10_000, -10_000}, []int{-370_000, 390_000}},
		{[][]int{{0, 0, 1}, {0, 1, 0}, {1, 0, 0}}, []int{7, 8, 9}, []int{9, 8, 7}},
	}
	for _, x := range list {
		l, e := lattice.Has(x.b, x.v)
		are(t, l, e, x.want, "Has", x.b, x.v)
	}
}

// P7.3, P7.9
func TestHeightsAndBound(t *testing.T) {
	for _, b := range manyBases() {
		heights, _ := orthogonal(b)
		var want []api.Frac
		least := heights[0]
		for _, h := range heights {
			want = append(want, asFrac(h))
			if h.Cmp(least) < 0 {
				least = h
			}
		}
		are(t, mustHeights(t, b), api.OK, want, "Heights", b)
		if f := mustBound(t, b); f != asFrac(least) {
			t.Errorf("Bound(%v): %v, not %v", b, f, least)
		}
	}
}

// almostEven returns a basis whose rows are almost orthogonal and as long as
// possible.
func almostEven(random *rand.Rand) [][]int {
	b := [][]int{{20, 20, 20, 20}, {20, -20, 20, -20}, {20, 20, -20, -20}, {20, -20, -20, 20}}
	for _, row := range b {
		for j := range row {
			row[j] = row[j] / 20 * (17 + random.IntN(4))
		}
	}
	return b
}

// P7.9: the least height is found also where the product of a number of one
// fraction and one of another is not an int.
func TestBoundOfLargeFractions(t *testing.T) {
	random := rand.New(rand.NewPCG(7, 4))
	large := 0
	for range 30_000 {
		b := almostEven(random)
		least, heights := rat(1600, 1), mustHeights(t, b)
		for _, f := range heights {
			if asRat(f).Cmp(least) < 0 {
				least = asRat(f)
			}
		}
		if heights[3].Num > math.MaxInt/heights[2].Den && heights[2].Num > math.MaxInt/heights[3].Den {
			large++
		}
		if f := mustBound(t, b); f != asFrac(least) {
			t.Errorf("Bound(%v): %v, not %v", b, f, least)
		}
	}
	if large < 100 {
		t.Errorf("only %d with large fractions", large)
	}
}

// P7.3
func TestReduced(t *testing.T) {
	counts := map[bool]int{}
	list := slices.Clone(manyBases())
	for _, b := range someBases() {
		if r := mustReduce(t, b); within(r, 20) {
			list = append(list, r)
		}
	}
	for _, b := range list {
		ok, e := lattice.Reduced(b)
		if want := isReduced(b); ok != want || e != api.OK {
			t.Errorf("Reduced(%v): %t, error %d, not %t", b, ok, e, want)
		}
		counts[ok]++
	}
	if counts[true] < 600 || counts[false] < 600 {
		t.Errorf("only %v bases that are reduced and not", counts)
	}
}

// P7.3: at the ends of what is reduced.
func TestReducedAtTheEnds(t *testing.T) {
	list := []struct {
		b    [][]int
		want bool
	}{
		{[][]int{{-7}}, true},
		{[][]int{{2, 0}, {1, 2}}, true},
		{[][]int{{2, 0}, {-1, 2}}, true},
		{[][]int{{19, 0}, {10, 20}}, false},
		{[][]int{{19, 0}, {-10, 20}}, false},
		{[][]int{{19, 0}, {9, 20}}, true},
		{[][]int{{20, 0}, {-10, 14}}, false},
		{[][]int{{20, 0}, {-10, 15}}, true},
		{[][]int{{2, 0, 0, 0}, {1, 1, 1, 0}, {0, 0, 0, 20}, {0, 1, -1, 0}}, false},
		{[][]int{{2, 0, 0, 0}, {1, 1, 1, 0}, {0, 1, -1, 0}, {0, 0, 0, 20}}, true},
		{[][]int{{2, 0, 0, 0}, {0, 1, 1, 1}, {0, 2, -1, -1}, {0, 0, 0, 20}}, false},
		{[][]int{{2, 0, 0, 0}, {0, 1, 1, 1}, {0, 2, -1, -1}, {0, 0, 20, -20}}, true},
		{[][]int{{4, 0, 0, 0}, {0, 2, 2, 1}, {0, 1, -1, 0}, {0, 0, 0, 20}}, false},
		{[][]int{{1, 0, 0}, {0, 1, 0}, {1, 0, 1}}, false},
		{[][]int{{2, 0, 0}, {0, 2, 0}, {1, 1, 2}}, true},
		{[][]int{{20, 20, 20, 20}, {20, -20, 20, -20}, {20, 20, -20, -20}, {20, -20, -20, 20}}, true},
		{[][]int{{20, 20, 20, 20}, {20, -20, 20, -20}, {20, 20, -20, -20}, {15, -15, -15, 15}}, false},
		{[][]int{{20, 20, 20, 20}, {20, -20, 20, -20}, {20, 20, -20, -20}, {18, -18, -18, 18}}, true},
	}
	for _, x := range list {
		ok, e := lattice.Reduced(x.b)
		if ok != x.want || e != api.OK || isReduced(x.b) != x.want {
			t.Errorf("Reduced(%v): %t, error %d, not %t", x.b, ok, e, x.want)
		}
	}
}

// P7.3: so are bases whose volumes have products that are no ints.
func TestReducedOfLargeFractions(t *testing.T) {
	random := rand.New(rand.NewPCG(7, 6))
	for i := range 2000 {
		b := almostEven(random)
		if i%2 == 1 {
			// The last height is close to 3/4 of the one before it.
			for j := range b[3] {
				b[3][j] = b[3][j] * 17 / 20
			}
		}
		if ok, e := lattice.Reduced(b); ok != isReduced(b) || e != api.OK {
			t.Errorf("Reduced(%v): %t, error %d", b, ok, e)
		}
	}
}

// P7.4
func TestReduce(t *testing.T) {
	changed := 0
	for _, b := range manyBases() {
		r := mustReduce(t, b)
		if len(r) != len(b) || !sameLattice(r, b) || !isReduced(r) {
			t.Errorf("Reduce(%v): %v", b, r)
		}
		if !equalRows(r, b) {
			changed++
		}
	}
	if changed < 1000 {
		t.Errorf("only %d bases are changed", changed)
	}
}

// P7.5, P7.7: what is found is compared with all whole vectors that are not
// longer.
func TestShortestMinimaAndTheta(t *testing.T) {
	for _, b := range append(smallBases(2), someBases()...) {
		shortest, minima, theta := mustShortest(t, b), mustMinima(t, b), mustTheta(t, b, 60)
		if len(shortest) != len(b) || len(minima) != len(b) || len(theta) != 61 {
			t.Errorf("%v: Shortest %v, Minima %v, Theta %v", b, shortest, minima, theta)
			continue
		}
		most := max(60, norm(shortest), slices.Max(minima))
		if most == 1600 && len(b) == 4 {
			continue // There are millions of whole vectors.
		}
		members := membersOf(b, make([]int, len(b)), most)
		are(t, shortest, api.OK, members[1].v, "Shortest", b)
		are(t, minima, api.OK, minimaOf(members), "Minima", b)
		counts := make([]int, 61)
		for _, m := range members {
			if m.distance <= 60 {
				counts[m.distance]++
			}
		}
		are(t, theta, api.OK, counts, "Theta", b, 60)
	}
}

// P7.5: rows that are orthogonal and as long as possible.
func TestShortestOfLongRows(t *testing.T) {
	b := [][]int{{20, 20, 20, 20}, {20, -20, 20, -20}, {20, 20, -20, -20}, {20, -20, -20, 20}}
	are(t, mustShortest(t, b), api.OK, []int{-20, -20, -20, -20}, "Shortest", b)
	are(t, mustMinima(t, b), api.OK, []int{1600, 1600, 1600, 1600}, "Minima", b)
	// One row alone is long.
	b = [][]int{{1, -1, 0, 0}, {0, 1, -1, 0}, {0, 0, 1, -1}, {20, 20, 20, 20}}
	are(t, mustShortest(t, b), api.OK, []int{-1, 0, 0, 1}, "Shortest", b)
	are(t, mustMinima(t, b), api.OK, []int{2, 2, 2, 1600}, "Minima", b)
}

// P7.7
func TestThetaUpTo(t *testing.T) {
	for _, b := range someBases() {
		all := mustTheta(t, b, 60)
		for _, most := range []int{0, 1, 2, 7, 31, 59} {
			l, e := lattice.Theta(b, most)
			are(t, l, e, all[:most+1], "Theta", b, most)
		}
	}
}

// P7.6: no whole vector that is nearer, or as near and before, is in the lattice.
func TestClosest(t *testing.T) {
	random := rand.New(rand.NewPCG(7, 5))
	ties := 0
	for _, b := range append(smallBases(2), someBases()...) {
		list := append(vectors(random, 5, len(b), 100), vectors(random, 5, len(b), 6)[2:]...)
		for _, to := range append(list, make([]int, len(b))) {
			v := mustClosest(t, b, to)
			if len(v) != len(b) {
				t.Errorf("Closest(%v, %v): %v", b, to, v)
				continue
			}
			distance := norm(minus(v, to))
			if distance > 1600 {
				t.Errorf("Closest(%v, %v): %v is too far", b, to, v)
				continue
			}
			members := membersOf(b, to, distance)
			if len(members) == 0 || !slices.Equal(v, members[0].v) {
				t.Errorf("Closest(%v, %v): %v of %v", b, to, v, members)
			}
			if len(members) > 1 {
				ties++
			}
		}
	}
	if ties < 1000 {
		t.Errorf("only %d vectors with several that are close", ties)
	}
}

// P7.6: where several vectors are as near, the first one is the closest.
func TestFirstOfTheClosest(t *testing.T) {
	list := []struct {
		b           [][]int
		to, nearest []int
	}{
		{[][]int{{2}}, []int{1}, []int{0}},
		{[][]int{{-2}}, []int{-1}, []int{-2}},
		{[][]int{{20}}, []int{-90}, []int{-100}},
		{[][]int{{20}}, []int{91}, []int{100}},
		{[][]int{{7}}, []int{100}, []int{98}},
		{[][]int{{2, 0}, {0, 2}}, []int{1, 1}, []int{0, 0}},
		{[][]int{{2, 0}, {0, 2}}, []int{-1, 100}, []int{-2, 100}},
		{[][]int{{2, 0, 0, 0}, {0, 2, 0, 0}, {0, 0, 2, 0}, {0, 0, 0, 2}}, []int{1, 1, -1, 1}, []int{0, 0, -2, 0}},
		{[][]int{{20, 20, 20, 20}, {20, -20, 20, -20}, {20, 20, -20, -20}, {20, -20, -20, 20}}, []int{20, 0, 20, 0}, []int{0, 0, 0, 0}},
		{[][]int{{20, 20, 20, 20}, {20, -20, 20, -20}, {20, 20, -20, -20}, {20, -20, -20, 20}}, []int{20, 0, 20, 1}, []int{20, 20, 20, 20}},
		{[][]int{{1, 0}, {0, 1}}, []int{-100, 100}, []int{-100, 100}},
	}
	for _, x := range list {
		are(t, mustClosest(t, x.b, x.to), api.OK, x.nearest, "Closest", x.b, x.to)
	}
}

// P7.8
func TestDual(t *testing.T) {
	for _, b := range manyBases() {
		rows, det := mustDual(t, b), determinant(b)
		if len(rows) != len(b) {
			t.Errorf("Dual(%v): %v", b, rows)
			continue
		}
		for i, row := range rows {
			for j := range b {
				want := 0
				if i == j {
					want = det
				}
				if len(row) != len(b) || inner(row, b[j]) != want {
					t.Errorf("Dual(%v): row %d is %v, row %d of b is %v", b, i, row, j, b[j])
				}
			}
		}
	}
}
