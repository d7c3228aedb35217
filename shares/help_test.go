package shares_test

import (
	"math/big"
	"slices"
	"testing"

	"gherkin/api"
	"gherkin/shares"
)

const greatest = 1_000_000_000_000 // the greatest denominator

// share is a / b, not always in lowest terms.
type share struct{ a, b int }

// allShares returns all shares, rising by b.
func allShares() []share {
	var list []share
	for b := 2; b <= 60; b++ {
		for a := 1; a < b; a++ {
			list = append(list, share{a, b})
		}
	}
	return list
}

// lowest returns the share in lowest terms.
func (s share) lowest() share {
	g := factor(s.a, s.b)
	return share{s.a / g, s.b / g}
}

func (s share) rat() *big.Rat { return big.NewRat(int64(s.a), int64(s.b)) }

// factor returns the greatest common factor.
func factor(a, b int) int {
	for b > 0 {
		a, b = b, a%b
	}
	return a
}

// total returns the sum of the unit fractions of l.
func total(l []int) *big.Rat {
	sum := new(big.Rat)
	for _, d := range l {
		sum.Add(sum, big.NewRat(1, int64(d)))
	}
	return sum
}

// rising reports whether l has different numbers, rising, each at least 2.
func rising(l []int) bool {
	for i, d := range l {
		if d < 2 || i > 0 && d <= l[i-1] {
			return false
		}
	}
	return true
}

// isSum is the definition of a sum.
func (s share) isSum(l []int) bool { return rising(l) && total(l).Cmp(s.rat()) == 0 }

// checked reports whether Check is to accept l.
func (s share) checked(l []int) bool {
	return len(l) <= 8 && !slices.ContainsFunc(l, func(d int) bool { return d > 1_000_000 }) && s.isSum(l)
}

// inverse returns the least whole number that is at least 1 divided by r.
func inverse(r *big.Rat) *big.Int {
	up := new(big.Int).Add(r.Denom(), r.Num())
	up.Sub(up, big.NewInt(1))
	return up.Div(up, r.Num())
}

// greedy returns the greedy sum, by its definition, or false if a denominator is
// above 10^12.
func (s share) greedy() ([]int, bool) {
	var list []int
	for left := s.rat(); left.Sign() > 0; {
		d := inverse(left)
		if d.Cmp(big.NewInt(greatest)) > 0 {
			return nil, false
		}
		list = append(list, int(d.Int64()))
		left.Sub(left, new(big.Rat).SetFrac(big.NewInt(1), d))
	}
	return list, true
}

// engel returns Engel's numbers, by their definition.
func (s share) engel() []int {
	var list []int
	for left := s.rat(); left.Sign() > 0; {
		u := inverse(left)
		list = append(list, int(u.Int64()))
		left.Mul(left, new(big.Rat).SetInt(u))
		left.Sub(left, big.NewRat(1, 1))
	}
	return list
}

// addTo returns the share in lowest terms that is s and 1/d.
func (s share) addTo(d int) share { return share{s.a*d + s.b, s.b * d}.lowest() }

// eachList calls visit with each rising list of so many denominators from low to
// most, compared from the front, and with its sum, in lowest terms and less
// than 1, to which s is added.
func eachList(s share, before []int, terms, low, most int, visit func(l []int, sum share)) {
	if terms == 0 {
		visit(before, s)
		return
	}
	for d := low; d <= most; d++ {
		if next := s.addTo(d); next.a < next.b {
			eachList(next, append(before, d), terms-1, d+1, most, visit)
		}
	}
}

// firstSums returns the first of the sums with the fewest denominators for each
// share in lowest terms that has one: all lists are tried.
func firstSums(terms, most int) map[share][]int {
	firsts := map[share][]int{}
	for count := 1; count <= terms; count++ {
		eachList(share{0, 1}, nil, count, 2, most, func(l []int, sum share) {
			if sum.b <= 60 && firsts[sum] == nil {
				firsts[sum] = slices.Clone(l)
			}
		})
	}
	return firsts
}

// pairSums returns for each sum of two different unit fractions with
// denominators up to most, in lowest terms, all pairs that have it, rising.
func pairSums(most int) map[share][][2]int {
	pairs := map[share][][2]int{}
	eachList(share{0, 1}, nil, 2, 2, most, func(l []int, sum share) {
		pairs[sum] = append(pairs[sum], [2]int(l))
	})
	return pairs
}

// firstOfFour returns the first sum of four, the last two of which come from
// the pairs, or nil if there is none.
func (s share) firstOfFour(most int, pairs map[share][][2]int) []int {
	for x := 2; x <= most; x++ {
		for y := x + 1; y <= most; y++ {
			left := share{(s.a*x-s.b)*y - s.b*x, s.b * x * y}
			if left.a <= 0 {
				continue
			}
			for _, pair := range pairs[left.lowest()] {
				if pair[0] > y {
					return []int{x, y, pair[0], pair[1]}
				}
			}
		}
	}
	return nil
}

// bound returns the greatest first denominator of a sum with so many terms, or 0
// if there is none.
func (s share) bound(terms int) int {
	for x := terms * s.b / s.a; x >= 2; x-- {
		left := share{s.a*x - s.b, s.b * x}
		if left.a >= 0 && left.endsAfter(x, terms-1) {
			return x
		}
	}
	return 0
}

// endsAfter reports whether s is a sum of so many different unit fractions with
// denominators above low: each next one is tried until so many like it would be
// less than s.
func (s share) endsAfter(low, terms int) bool {
	if s.a == 0 || terms == 0 {
		return s.a == 0 && terms == 0
	}
	if terms == 1 {
		return s.b%s.a == 0 && s.b/s.a > low
	}
	for d := low + 1; s.a*d <= terms*s.b; d++ {
		left := share{s.a*d - s.b, s.b * d}
		if left.a >= 0 && left.endsAfter(d, terms-1) {
			return true
		}
	}
	return false
}

// divisors returns those of n, rising.
func divisors(n int) []int {
	var list []int
	for d := 1; d <= n; d++ {
		if n%d == 0 {
			list = append(list, d)
		}
	}
	return list
}

func sumOf(l []int) int {
	sum := 0
	for _, n := range l {
		sum += n
	}
	return sum
}

// divisorSums has at [i][m], for m up to the sum of all divisors of n, whether m
// is a sum of different ones among the first i.
func divisorSums(n int) [][]bool {
	list := divisors(n)
	row := make([]bool, sumOf(list)+1)
	row[0] = true
	rows := [][]bool{row}
	for i, d := range list {
		next := slices.Clone(rows[i])
		for m := d; m < len(next); m++ {
			next[m] = next[m] || rows[i][m-d]
		}
		rows = append(rows, next)
	}
	return rows
}

// practical is the definition of a practical number, of which these are the
// divisor sums.
func practical(n int, rows [][]bool) bool {
	all := rows[len(rows)-1]
	for m := 1; m <= n; m++ {
		if !all[m] {
			return false
		}
	}
	return true
}

// subsets returns all lists of the numbers in l, in their order.
func subsets(l []int) [][]int {
	list := [][]int{nil}
	for _, n := range l {
		for _, other := range list {
			list = append(list, append(slices.Clone(other), n))
		}
	}
	return list
}

// accepts returns what Check says of a list.
func accepts(t *testing.T, s share, l []int) bool {
	t.Helper()
	ok, e := shares.Check(s.a, s.b, l)
	if e != api.OK {
		t.Errorf("Check(%d, %d, %v): error %d", s.a, s.b, l, e)
	}
	return ok
}

// mustGreedy returns the greedy sum, or false with ErrSize.
func mustGreedy(t *testing.T, s share) ([]int, bool) {
	t.Helper()
	l, e := shares.Greedy(s.a, s.b)
	if e != api.OK && (e != api.ErrSize || len(l) > 0) {
		t.Errorf("Greedy(%d, %d): %v, error %d", s.a, s.b, l, e)
	}
	return l, e == api.OK
}

// mustEngel returns Engel's numbers.
func mustEngel(t *testing.T, s share) []int {
	t.Helper()
	u, e := shares.Engel(s.a, s.b)
	if e != api.OK {
		t.Errorf("Engel(%d, %d): error %d", s.a, s.b, e)
	}
	return u
}

// mustPractical reports what Practical says.
func mustPractical(t *testing.T, n int) bool {
	t.Helper()
	ok, e := shares.Practical(n)
	if e != api.OK {
		t.Errorf("Practical(%d): error %d", n, e)
	}
	return ok
}

// listOrNone checks a list together with its error: it is the one wanted, or
// none with ErrNone if that is nil.
func listOrNone(t *testing.T, want, l []int, e api.Errno, call string, arguments ...any) {
	t.Helper()
	f := api.OK
	if want == nil {
		f = api.ErrNone
	}
	if !slices.Equal(l, want) || e != f {
		t.Errorf("%s of %v: %v, error %d, not %v, error %d", call, arguments, l, e, want, f)
	}
}
