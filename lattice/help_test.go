package lattice_test

import (
	"cmp"
	"math/big"
	"math/rand/v2"
	"slices"
	"sync"
	"testing"

	"gherkin/api"
	"gherkin/lattice"
)

// smallBases returns all bases of one row, and all of two rows with numbers from
// -most to most.
func smallBases(most int) [][][]int {
	var list [][][]int
	for a := -20; a <= 20; a++ {
		if a != 0 {
			list = append(list, [][]int{{a}})
		}
	}
	for a := -most; a <= most; a++ {
		for b := -most; b <= most; b++ {
			for c := -most; c <= most; c++ {
				for d := -most; d <= most; d++ {
					if a*d != b*c {
						list = append(list, [][]int{{a, b}, {c, d}})
					}
				}
			}
		}
	}
	return list
}

// specialBases returns bases at the ends of what is allowed: as long and as even
// as possible, with one long row or several, close to dependent, far from reduced,
// or with rows that take turns in being the longest ones of a sum.
func specialBases() [][][]int {
	return [][][]int{
		{{1}}, {{-1}}, {{20}}, {{-20}},
		{{2, 0}, {1, 2}}, {{1, 0}, {0, 1}}, {{0, 1}, {1, 0}}, {{20, 20}, {-20, 20}}, {{20, 19}, {19, 18}}, {{20, 20}, {20, 19}}, {{2, 0}, {1, 1}}, {{1, 20}, {0, 1}}, {{-20, -20}, {-20, 20}}, {{2, 0}, {0, 2}},
		{{1, 0, 0}, {17, 1, 0}, {-13, 19, 1}}, {{1, 0, 0}, {0, 1, 0}, {0, 0, 1}}, {{20, 20, 20}, {20, -20, 20}, {20, 20, -20}}, {{1, 1, 0}, {0, 1, 1}, {1, 0, 1}}, {{20, 20, 20}, {20, 20, 19}, {20, 19, 19}}, {{2, 0, 0}, {0, 2, 0}, {0, 0, 2}}, {{1, -1, 0}, {0, 1, -1}, {20, 20, 20}}, {{0, 0, 20}, {0, 20, 0}, {20, 0, 0}},
		{{-5, -3, -3}, {-2, 3, -5}, {4, 1, -4}}, {{-1, -6, 5}, {-1, 6, 4}, {5, 6, 1}}, {{-2, 0, -2}, {-1, 2, -1}, {0, -1, 2}}, {{2, 2, 1, 2}, {1, -2, -1, 0}, {-2, -2, 1, 1}, {1, -2, 2, 0}},
		{{1, 0, 0, 0}, {0, 1, 0, 0}, {0, 0, 1, 0}, {0, 0, 0, 1}}, {{2, 0, 0, 0}, {0, 2, 0, 0}, {0, 0, 2, 0}, {0, 0, 0, 2}}, {{2, 0, 0, 0}, {0, 2, 0, 0}, {0, 0, 2, 0}, {1, 1, 1, 1}}, {{1, 1, 0, 0}, {1, -1, 0, 0}, {0, 1, -1, 0}, {0, 0, 1, -1}},
		{{1, 0, 0, 0}, {20, 1, 0, 0}, {20, 20, 1, 0}, {20, 20, 20, 1}}, {{1, 20, 20, 20}, {0, 1, 20, 20}, {0, 0, 1, 20}, {0, 0, 0, 1}}, {{20, 20, 20, 20}, {20, 20, 20, 19}, {20, 20, 19, 19}, {20, 19, 19, 19}}, {{1, 0, 0, 0}, {0, 1, 0, 0}, {0, 0, 1, 0}, {20, 20, 20, 20}}, {{7, 7, 7, 7}, {0, 0, 20, -20}, {1, 0, 0, 0}, {0, 0, 0, 3}},
		{{20, 20, 20, 20}, {20, -20, 20, -20}, {20, 20, -20, -20}, {20, -20, -20, 20}}, {{20, 19, 20, 20}, {20, -20, 19, -20}, {20, 20, -20, -17}, {19, -20, -20, 20}}, {{-20, 20, 20, 20}, {20, -20, 20, 20}, {20, 20, -20, 20}, {20, 20, 20, -20}}, {{20, 20, 20, 20}, {-20, 20, -20, 20}, {1, 0, 0, 0}, {0, 0, 0, 1}},
	}
}

// randomBases returns so many bases of n rows with numbers from -most to most.
func randomBases(random *rand.Rand, count, n, most int) [][][]int {
	var list [][][]int
	for len(list) < count {
		b := make([][]int, n)
		for i := range b {
			b[i] = make([]int, n)
			for j := range b[i] {
				b[i][j] = random.IntN(2*most+1) - most
				if len(list)%4 == 3 && random.IntN(3) == 0 {
					b[i][j] = 0
				}
			}
		}
		if determinant(b) != 0 {
			list = append(list, b)
		}
	}
	return list
}

// someBases returns special and random ones of all sizes.
var someBases = sync.OnceValue(func() [][][]int {
	random := rand.New(rand.NewPCG(7, 1))
	list := specialBases()
	for n := 2; n <= api.MaxRows; n++ {
		for _, most := range []int{1, 2, 6, 20} {
			list = append(list, randomBases(random, 30, n, most)...)
		}
	}
	return list
})

// manyBases returns these, and small ones.
var manyBases = sync.OnceValue(func() [][][]int { return append(smallBases(3), someBases()...) })

// vectors returns so many of n numbers from -most to most, the first two of them
// at the ends.
func vectors(random *rand.Rand, count, n, most int) [][]int {
	list := [][]int{slices.Repeat([]int{most}, n), slices.Repeat([]int{-most}, n)}
	for len(list) < count {
		v := make([]int, n)
		for i := range v {
			v[i] = random.IntN(2*most+1) - most
		}
		list = append(list, v)
	}
	return list
}

// determinant returns that of a matrix: the sum over all ways to choose one number
// of each row and of each column, each exchange of two columns changing the sign.
func determinant(m [][]int) int {
	columns := make([]int, len(m))
	for j := range columns {
		columns[j] = j
	}
	sum := 0
	var choose func(i, product int)
	choose = func(i, product int) {
		if i == len(m) {
			sum += product
			return
		}
		for k := i; k < len(m); k++ {
			sign := 1
			if k > i {
				sign = -1
			}
			columns[i], columns[k] = columns[k], columns[i]
			choose(i+1, sign*product*m[i][columns[i]])
			columns[i], columns[k] = columns[k], columns[i]
		}
	}
	choose(0, 1)
	return sum
}

func inner(v, w []int) int {
	sum := 0
	for i := range v {
		sum += v[i] * w[i]
	}
	return sum
}

func norm(v []int) int { return inner(v, v) }

func minus(v, w []int) []int {
	var list []int
	for i := range v {
		list = append(list, v[i]-w[i])
	}
	return list
}

func plus(v, w []int) []int {
	var list []int
	for i := range v {
		list = append(list, v[i]+w[i])
	}
	return list
}

// sum returns the sum of the multiples of the rows.
func sum(b [][]int, multiples []int) []int {
	v := make([]int, len(b))
	for i, row := range b {
		for j, x := range row {
			v[j] += multiples[i] * x
		}
	}
	return v
}

func rat(num, den int) *big.Rat { return big.NewRat(int64(num), int64(den)) }

// multiplesOf returns the multiples of the rows whose sum is v, which need not be
// whole: those for which the rows leave nothing, column by column.
func multiplesOf(b [][]int, v []int) []*big.Rat {
	n := len(b)
	// Equation j: the multiples times column j of b are v[j].
	equations := make([][]*big.Rat, n)
	for j := range n {
		for i := range n {
			equations[j] = append(equations[j], rat(b[i][j], 1))
		}
		equations[j] = append(equations[j], rat(v[j], 1))
	}
	for i := range n {
		pivot := i
		for equations[pivot][i].Sign() == 0 {
			pivot++
		}
		equations[i], equations[pivot] = equations[pivot], equations[i]
		for j := range n {
			if j == i {
				continue
			}
			times := new(big.Rat).Quo(equations[j][i], equations[i][i])
			for k := range equations[j] {
				equations[j][k].Sub(equations[j][k], new(big.Rat).Mul(times, equations[i][k]))
			}
		}
	}
	var list []*big.Rat
	for i := range n {
		list = append(list, new(big.Rat).Quo(equations[i][n], equations[i][i]))
	}
	return list
}

// has reports whether v is in the lattice.
func has(b [][]int, v []int) bool {
	for _, x := range multiplesOf(b, v) {
		if !x.IsInt() {
			return false
		}
	}
	return true
}

// membership returns has for one basis, made for many vectors.
func membership(b [][]int) func(v []int) bool {
	n, det := len(b), determinant(b)
	columns := make([][]int, n)
	for i := range n {
		unit := make([]int, n)
		unit[i] = 1
		for j, x := range multiplesOf(b, unit) {
			columns[j] = append(columns[j], int(x.Mul(x, rat(det, 1)).Num().Int64()))
		}
	}
	return func(v []int) bool {
		for _, column := range columns {
			if inner(column, v)%det != 0 {
				return false
			}
		}
		return true
	}
}

// sameLattice reports whether the rows of a have the lattice of b: they are in it,
// and not farther apart.
func sameLattice(a, b [][]int) bool {
	for _, v := range a {
		if len(v) != len(b) || !has(b, v) {
			return false
		}
	}
	det, other := determinant(a), determinant(b)
	return det == other || det == -other
}

// member is a vector of a lattice with the norm of its difference to a center.
type member struct {
	v        []int
	distance int
}

// membersOf returns all vectors of the lattice whose difference to t has a norm of
// at most most, the nearest and then the first ones first: of all whole vectors
// there, those that are in the lattice.
func membersOf(b [][]int, t []int, most int) []member {
	in := membership(b)
	var list []member
	v := make([]int, len(b))
	var place func(i, left int)
	place = func(i, left int) {
		if i == len(b) {
			if in(v) {
				list = append(list, member{slices.Clone(v), most - left})
			}
			return
		}
		for x := 0; x*x <= left; x++ {
			v[i] = t[i] + x
			place(i+1, left-x*x)
			if x > 0 {
				v[i] = t[i] - x
				place(i+1, left-x*x)
			}
		}
	}
	place(0, most)
	slices.SortFunc(list, func(a, b member) int {
		return cmp.Or(cmp.Compare(a.distance, b.distance), slices.Compare(a.v, b.v))
	})
	return list
}

// minimaOf returns the norms of the members that are independent of those before
// them.
func minimaOf(members []member) []int {
	var list []int
	var echelon [][]int
	for _, m := range members {
		left := slices.Clone(m.v)
		for _, row := range echelon {
			left = cleared(left, row)
		}
		if norm(left) > 0 {
			echelon = append(echelon, left)
			list = append(list, m.distance)
		}
	}
	return list
}

// cleared returns a multiple of v and of row, without a common factor, that is 0
// where the row has its first number that is not 0.
func cleared(v, row []int) []int {
	first := slices.IndexFunc(row, func(x int) bool { return x != 0 })
	list, factor := make([]int, len(v)), 0
	for i := range v {
		list[i] = v[i]*row[first] - row[i]*v[first]
		factor = gcd(factor, list[i])
	}
	for i := range list {
		if factor > 1 {
			list[i] /= factor
		}
	}
	return list
}

func gcd(a, b int) int {
	for b != 0 {
		a, b = b, a%b
	}
	return max(a, -a)
}

// orthogonal returns the norms of the rows made orthogonal to those before them,
// and u(i, j), by their definition.
func orthogonal(b [][]int) (heights []*big.Rat, u [][]*big.Rat) {
	var made [][]*big.Rat
	for i, row := range b {
		left, shares := rational(row), []*big.Rat{}
		for j := range i {
			share := product(rational(row), made[j])
			share.Quo(share, heights[j])
			shares = append(shares, share)
			for k := range left {
				left[k].Sub(left[k], new(big.Rat).Mul(share, made[j][k]))
			}
		}
		made, u = append(made, left), append(u, shares)
		heights = append(heights, product(left, left))
	}
	return heights, u
}

func rational(v []int) []*big.Rat {
	var list []*big.Rat
	for _, x := range v {
		list = append(list, rat(x, 1))
	}
	return list
}

func product(v, w []*big.Rat) *big.Rat {
	sum := new(big.Rat)
	for i := range v {
		sum.Add(sum, new(big.Rat).Mul(v[i], w[i]))
	}
	return sum
}

// isReduced reports whether the rows are reduced, by the definition.
func isReduced(b [][]int) bool {
	heights, u := orthogonal(b)
	for i := range b {
		for j := range i {
			if new(big.Rat).Abs(u[i][j]).Cmp(rat(1, 2)) > 0 {
				return false
			}
		}
		if i == 0 {
			continue
		}
		least := new(big.Rat).Mul(u[i][i-1], u[i][i-1])
		least.Sub(rat(3, 4), least)
		if heights[i].Cmp(least.Mul(least, heights[i-1])) < 0 {
			return false
		}
	}
	return true
}

func asFrac(x *big.Rat) api.Frac {
	return api.Frac{Num: int(x.Num().Int64()), Den: int(x.Denom().Int64())}
}

func asRat(f api.Frac) *big.Rat { return rat(f.Num, f.Den) }

// are checks a list that is to be found.
func are[T comparable](t *testing.T, got []T, e api.Errno, want []T, call string, arguments ...any) {
	t.Helper()
	if e != api.OK || !slices.Equal(got, want) {
		t.Errorf("%s of %v: %v, error %d, not %v", call, arguments, got, e, want)
	}
}

func equalRows(a, b [][]int) bool { return slices.EqualFunc(a, b, slices.Equal) }

// within reports whether no number is above most or below -most.
func within(b [][]int, most int) bool {
	for _, row := range b {
		for _, x := range row {
			if x < -most || x > most {
				return false
			}
		}
	}
	return true
}

func mustDet(t *testing.T, b [][]int) int {
	t.Helper()
	n, e := lattice.Det(b)
	if e != api.OK {
		t.Fatalf("Det(%v): error %d", b, e)
	}
	return n
}

func mustNormal(t *testing.T, b [][]int) [][]int {
	t.Helper()
	rows, e := lattice.Normal(b)
	if e != api.OK {
		t.Fatalf("Normal(%v): error %d", b, e)
	}
	return rows
}

func areSame(t *testing.T, a, b [][]int) bool {
	t.Helper()
	ok, e := lattice.Same(a, b)
	if e != api.OK {
		t.Fatalf("Same(%v, %v): error %d", a, b, e)
	}
	return ok
}

func mustHeights(t *testing.T, b [][]int) []api.Frac {
	t.Helper()
	list, e := lattice.Heights(b)
	if e != api.OK {
		t.Fatalf("Heights(%v): error %d", b, e)
	}
	return list
}

func mustReduce(t *testing.T, b [][]int) [][]int {
	t.Helper()
	rows, e := lattice.Reduce(b)
	if e != api.OK {
		t.Fatalf("Reduce(%v): error %d", b, e)
	}
	return rows
}

func mustShortest(t *testing.T, b [][]int) []int {
	t.Helper()
	v, e := lattice.Shortest(b)
	if e != api.OK {
		t.Fatalf("Shortest(%v): error %d", b, e)
	}
	return v
}

func mustMinima(t *testing.T, b [][]int) []int {
	t.Helper()
	list, e := lattice.Minima(b)
	if e != api.OK {
		t.Fatalf("Minima(%v): error %d", b, e)
	}
	return list
}

func mustClosest(t *testing.T, b [][]int, to []int) []int {
	t.Helper()
	v, e := lattice.Closest(b, to)
	if e != api.OK {
		t.Fatalf("Closest(%v, %v): error %d", b, to, e)
	}
	return v
}

func mustTheta(t *testing.T, b [][]int, most int) []int {
	t.Helper()
	list, e := lattice.Theta(b, most)
	if e != api.OK {
		t.Fatalf("Theta(%v, %d): error %d", b, most, e)
	}
	return list
}

func mustDual(t *testing.T, b [][]int) [][]int {
	t.Helper()
	rows, e := lattice.Dual(b)
	if e != api.OK {
		t.Fatalf("Dual(%v): error %d", b, e)
	}
	return rows
}

func mustBound(t *testing.T, b [][]int) api.Frac {
	t.Helper()
	f, e := lattice.Bound(b)
	if e != api.OK {
		t.Fatalf("Bound(%v): error %d", b, e)
	}
	return f
}
