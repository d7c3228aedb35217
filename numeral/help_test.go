package numeral_test

import (
	"math/big"
	"math/rand/v2"
	"slices"
	"sync"
	"testing"

	"gherkin/api"
	"gherkin/numeral"
)

const (
	greatest    = 1_000_000_000_000 // the greatest number
	highestHeap = 1_000_000
)

// fibonacci has at k, from 2 on, the Fibonacci number F(k).
var fibonacci = sync.OnceValue(func() []*big.Int {
	f := []*big.Int{nil, nil, big.NewInt(1), big.NewInt(2)}
	for len(f) <= 130 {
		f = append(f, new(big.Int).Add(f[len(f)-1], f[len(f)-2]))
	}
	return f
})

// sumAt returns the sum of the Fibonacci numbers at the indices, of any size.
func sumAt(indices []int) *big.Int {
	sum := big.NewInt(0)
	for _, k := range indices {
		sum.Add(sum, fibonacci()[k])
	}
	return sum
}

// raised returns the indices, each one raised by a number.
func raised(indices []int, by int) []int {
	var list []int
	for _, k := range indices {
		list = append(list, k+by)
	}
	return list
}

// isNumeral is the definition of a numeral.
func isNumeral(l []int) bool {
	for i, k := range l {
		if k < 2 || k > 60 || i > 0 && l[i-1]-k < 2 {
			return false
		}
	}
	return true
}

// numerals returns all numerals with indices up to highest, compared from the
// front. As they are ordered as their values, that of n has the index n.
func numerals(highest int) [][]int {
	list := [][]int{nil}
	for first := 2; first <= highest; first++ {
		for _, rest := range numerals(first - 2) {
			list = append(list, append([]int{first}, rest...))
		}
	}
	return list
}

// small has at n the numeral of n, n up to 4180.
var small = sync.OnceValue(func() [][]int { return numerals(18) })

// someNumerals returns numerals of all sizes, also such with values above
// 10^12.
func someNumerals() [][]int {
	random := rand.New(rand.NewPCG(3, 1))
	list := slices.Clone(small()[:60])
	for first := 2; first <= 60; first++ {
		var dense, thin []int
		for k := first; k >= 2; k -= 2 {
			dense = append(dense, k)
		}
		for k := first; k >= 2; k -= 7 {
			thin = append(thin, k)
		}
		list = append(list, []int{first}, dense, thin)
		for range 4 {
			var l []int
			for k := first; k >= 2; k -= 2 + random.IntN(3) {
				l = append(l, k)
			}
			list = append(list, l)
		}
	}
	return list
}

// someNumbers returns numbers from 0 to 10^12 of all sizes, among them all that
// are near to a Fibonacci number.
func someNumbers() []int {
	random := rand.New(rand.NewPCG(3, 2))
	list := []int{greatest, greatest - 1, greatest / 2, greatest/2 + 1, 618033988749, 618033988750, 381966011250, 381966011251}
	for n := range 500 {
		list = append(list, n)
	}
	for k := 16; k < 60; k++ {
		f := int(fibonacci()[k].Int64())
		list = append(list, f-1, f, f+1)
	}
	for n := 1000; n < greatest; n *= 3 {
		list = append(list, n, n+random.IntN(n))
	}
	return list
}

// loses has at a and b whether whoever has to move from these heaps loses
// against good play: whether no move leads to heaps from which the other one
// loses.
var loses = sync.OnceValue(func() [][]bool {
	const size = 150
	table := make([][]bool, size)
	for a := range table {
		table[a] = make([]bool, size)
		for b := range size {
			isLost := func(to [2]int) bool { return table[to[0]][to[1]] }
			table[a][b] = !slices.ContainsFunc(moves(a, b), isLost)
		}
	}
	return table
})

// moves returns all pairs to which a move leads.
func moves(a, b int) [][2]int {
	var list [][2]int
	for take := 1; take <= a; take++ {
		list = append(list, [2]int{a - take, b})
	}
	for take := 1; take <= b; take++ {
		list = append(list, [2]int{a, b - take})
	}
	for take := 1; take <= min(a, b); take++ {
		list = append(list, [2]int{a - take, b - take})
	}
	return list
}

// coldPairs has at n the cold pair with the difference n, up to those whose
// lesser heap is at most 10^6: it is the least number in no pair before.
var coldPairs = sync.OnceValue(func() [][2]int {
	pairs := [][2]int{{0, 0}}
	used := make([]bool, 3*highestHeap)
	lesser := 1
	for n := 1; ; n++ {
		for used[lesser] {
			lesser++
		}
		if lesser > highestHeap {
			return pairs
		}
		used[lesser], used[lesser+n] = true, true
		pairs = append(pairs, [2]int{lesser, lesser + n})
	}
})

// isMove reports whether a move leads from the heaps of the first pair to those
// of the second one.
func isMove(from, to [2]int) bool {
	a, b := from[0]-to[0], from[1]-to[1]
	return a >= 0 && b >= 0 && a+b > 0 && (a == 0 || b == 0 || a == b)
}

// better orders the results of moves from the same heaps, the best one first.
func better(x, y [2]int) int {
	if d := y[0] + y[1] - x[0] - x[1]; d != 0 {
		return d
	}
	return x[0] - y[0]
}

// fractions returns all q of up to length numbers from 1 to most.
func fractions(length, most int) [][]int {
	var list [][]int
	last := [][]int{nil}
	for range length {
		var next [][]int
		for _, q := range last {
			for term := 1; term <= most; term++ {
				next = append(next, append(slices.Clone(q), term))
			}
		}
		list = append(list, next...)
		last = next
	}
	return list
}

// denominator returns D(k), by its definition.
func denominator(q []int, k int) int {
	switch k {
	case -1:
		return 0
	case 0:
		return 1
	}
	return q[k-1]*denominator(q, k-1) + denominator(q, k-2)
}

// isAlong is the definition of a numeral along q.
func isAlong(q, c []int) bool {
	if len(c) != len(q) || c[0] > q[0]-1 {
		return false
	}
	for k := range c {
		if c[k] < 0 || c[k] > q[k] || k >= 1 && c[k] == q[k] && c[k-1] != 0 {
			return false
		}
	}
	return true
}

// sumAlong returns the sum of c[k] D(k).
func sumAlong(q, c []int) int {
	sum := 0
	for k := range c {
		sum += c[k] * denominator(q, k)
	}
	return sum
}

// slicesUpTo returns all slices of len(q) numbers, each from 0 to 1 more than
// that of q.
func slicesUpTo(q []int) [][]int {
	list := [][]int{nil}
	for _, term := range q {
		var next [][]int
		for _, c := range list {
			for digit := range term + 2 {
				next = append(next, append(slices.Clone(c), digit))
			}
		}
		list = next
	}
	return list
}

// longFractions returns some q of many numbers, and of great ones.
func longFractions() [][]int {
	return [][]int{
		slices.Repeat([]int{9}, 10), slices.Repeat([]int{1}, 10), {2, 1, 1, 1, 1, 1, 1, 1, 1, 1}, {1, 9, 1, 9, 1, 9, 1, 9, 1, 9},
		{9, 1, 9, 1, 9, 1, 9, 1, 9}, {1, 2, 3, 4, 5, 6, 7, 8, 9}, {9, 8, 7, 6, 5, 4, 3, 2, 1, 1}, {3, 7, 1, 5, 9, 2}, {9}, {1},
	}
}

// coprime returns all p from 1 to m - 1 without a factor in common with m.
func coprime(m int) []int {
	var list []int
	for p := 1; p < m; p++ {
		common := false
		for d := 2; d <= p; d++ {
			common = common || p%d == 0 && m%d == 0
		}
		if !common {
			list = append(list, p)
		}
	}
	return list
}

// walked returns all gaps with their counts, found by a walk round the circle.
func walked(p, m, n int) [][2]int {
	marked := make([]bool, m)
	for i := range n {
		marked[i*p%m] = true
	}
	counts := make([]int, m+1)
	steps := 0
	for place := 1; place <= m; place++ {
		steps++
		if marked[place%m] {
			counts[steps]++
			steps = 0
		}
	}
	var list [][2]int
	for gap, count := range counts {
		if count > 0 {
			list = append(list, [2]int{gap, count})
		}
	}
	return list
}

// circles returns p, m and n of many circles.
func circles() [][3]int {
	var list [][3]int
	for m := 2; m <= 36; m++ {
		for _, p := range coprime(m) {
			for n := 1; n <= m; n++ {
				list = append(list, [3]int{p, m, n})
			}
		}
	}
	for _, m := range []int{997, 999, 1000} {
		for _, p := range []int{1, 7, 382, 617, m - 2, m - 1} {
			if !slices.Contains(coprime(m), p) {
				continue
			}
			for n := 1; n <= m; n += 1 + n/9 {
				list = append(list, [3]int{p, m, n})
			}
			list = append(list, [3]int{p, m, m})
		}
	}
	return list
}

func mustEncode(t *testing.T, n int) []int {
	t.Helper()
	l, e := numeral.Encode(n)
	if e != api.OK {
		t.Fatalf("Encode(%d): error %d", n, e)
	}
	return l
}

func mustValue(t *testing.T, l []int) int {
	t.Helper()
	n, e := numeral.Value(l)
	if e != api.OK {
		t.Fatalf("Value(%v): error %d", l, e)
	}
	return n
}

func mustShift(t *testing.T, n int) int {
	t.Helper()
	shift, e := numeral.Shift(n)
	if e != api.OK {
		t.Fatalf("Shift(%d): error %d", n, e)
	}
	return shift
}

func mustCircle(t *testing.T, a, b int) int {
	t.Helper()
	n, e := numeral.Circle(a, b)
	if e != api.OK {
		t.Fatalf("Circle(%d, %d): error %d", a, b, e)
	}
	return n
}

func mustWord(t *testing.T, n int) string {
	t.Helper()
	word, e := numeral.Word(n)
	if e != api.OK {
		t.Fatalf("Word(%d): error %d", n, e)
	}
	return word
}

func mustCold(t *testing.T, a, b int) bool {
	t.Helper()
	cold, e := numeral.Cold(a, b)
	if e != api.OK {
		t.Fatalf("Cold(%d, %d): error %d", a, b, e)
	}
	return cold
}

func mustPair(t *testing.T, n int) [2]int {
	t.Helper()
	pair, e := numeral.Pair(n)
	if e != api.OK {
		t.Fatalf("Pair(%d): error %d", n, e)
	}
	return pair
}

func mustDigits(t *testing.T, q []int, n int) []int {
	t.Helper()
	c, e := numeral.Digits(q, n)
	if e != api.OK {
		t.Fatalf("Digits(%v, %d): error %d", q, n, e)
	}
	return c
}

func mustGaps(t *testing.T, c [3]int) [][2]int {
	t.Helper()
	list, e := numeral.Gaps(c[0], c[1], c[2])
	if e != api.OK {
		t.Fatalf("Gaps of %v: error %d", c, e)
	}
	return list
}
