package pell_test

import (
	"math"
	"math/big"
	"slices"
	"testing"

	"gherkin/api"
	"gherkin/pell"
)

// allD returns all valid D, found without a root.
func allD() []int {
	var list []int
	for d := 2; d <= 100; d++ {
		if !slices.Contains([]int{4, 9, 16, 25, 36, 49, 64, 81, 100}, d) {
			list = append(list, d)
		}
	}
	return list
}

// allN returns all valid n.
func allN() []int {
	var list []int
	for n := -100; n <= 100; n++ {
		if n != 0 {
			list = append(list, n)
		}
	}
	return list
}

// wrongD returns numbers of any size and sign that are no valid D, also some
// that would be valid with fewer bits.
func wrongD() []int {
	return []int{
		0, 1, -1, -2, -7, 4, 9, 16, 25, 36, 49, 64, 81, 100, 101, 102, 121, 1000,
		1<<32 + 2, -1<<32 + 2, 1<<62 + 2, math.MaxInt, math.MinInt, math.MinInt + 2,
	}
}

// wrongN returns numbers that are no valid n.
func wrongN() []int {
	return []int{
		0, 101, -101, 121, 1000, -1000, 1 << 32, 1<<32 + 1, -1<<32 - 1,
		math.MaxInt, math.MinInt, math.MinInt + 1,
	}
}

// bySquareRoot returns a0 and the period for d, by turning over the square root
// itself, with more bits than the longest period needs.
func bySquareRoot(d int) []int {
	const bits = 2000
	r := new(big.Float).SetPrec(bits).SetInt64(int64(d))
	r.Sqrt(r)
	var list []int
	for {
		whole, _ := r.Int64()
		list = append(list, int(whole))
		if len(list) > 1 && list[len(list)-1] == 2*list[0] {
			return list
		}
		r.Sub(r, new(big.Float).SetInt64(whole))
		r.Quo(new(big.Float).SetPrec(bits).SetInt64(1), r)
	}
}

// bigConvergents returns the convergents with the indices 0 to k, of any size.
func bigConvergents(d, k int) [][2]*big.Int {
	list := bySquareRoot(d)
	last := [2]*big.Int{big.NewInt(0), big.NewInt(1)}
	this := [2]*big.Int{big.NewInt(1), big.NewInt(0)}
	var all [][2]*big.Int
	for i := range k + 1 {
		a := list[0]
		if i > 0 {
			a = list[1+(i-1)%(len(list)-1)]
		}
		var next [2]*big.Int
		for j := range next {
			next[j] = new(big.Int).Mul(big.NewInt(int64(a)), this[j])
			next[j].Add(next[j], last[j])
		}
		last, this = this, next
		all = append(all, this)
	}
	return all
}

// enough is a number that the least y of no class exceeds: the square of that
// is at most |n| (t + 1) / (2 D), with t the first number of the right unit;
// this is greatest for D 61 and n 100.
const enough = 38100

// found has for each n from -100 to 100 (at the index n + 100) the pairs with y
// from 0 on and x of any sign whose x^2 - d y^2 is n: rising by y, of these
// first that with the greater x.
type found [201][][2]int

// search looks for the pairs with y from 0 to most for all n at once: x runs
// over those for which x^2 is near to d y^2.
func search(d, most int) *found {
	all := new(found)
	low := 0
	for y := 0; y <= most; y++ {
		for low*low < d*y*y-100 {
			low++
		}
		for x := low; x*x <= d*y*y+100; x++ {
			at := x*x - d*y*y + 100
			all[at] = append(all[at], [2]int{x, y})
			if x > 0 {
				all[at] = append(all[at], [2]int{-x, y})
			}
		}
	}
	return all
}

func (f *found) of(n int) [][2]int { return f[n+100] }

// alike is the definition of one class.
func alike(d, n int, a, b [2]int) bool {
	return (a[0]*b[0]-d*a[1]*b[1])%n == 0 && (a[0]*b[1]-a[1]*b[0])%n == 0
}

// product returns the product of s and t, both taken as x + y r, with r the
// square root of d.
func product(d int, s, t [2]int) [2]int {
	return [2]int{s[0]*t[0] + d*s[1]*t[1], s[0]*t[1] + s[1]*t[0]}
}

// withoutSigns returns s with both numbers at least 0.
func withoutSigns(s [2]int) [2]int {
	return [2]int{max(s[0], -s[0]), max(s[1], -s[1])}
}

// forSame tells whether s is within the limits of Same.
func forSame(s [2]int) bool {
	s = withoutSigns(s)
	return s[0] <= 1_000_000 && s[1] <= 100_000
}

func mustExpand(t *testing.T, d int) []int {
	t.Helper()
	list, e := pell.Expand(d)
	if e != api.OK || len(list) < 2 {
		t.Fatalf("Expand(%d): %v, error %d", d, list, e)
	}
	return list
}

func mustUnit(t *testing.T, d int) (s [2]int, norm int) {
	t.Helper()
	x, y, norm, e := pell.Unit(d)
	if e != api.OK {
		t.Fatalf("Unit(%d): error %d", d, e)
	}
	return [2]int{x, y}, norm
}

func mustRight(t *testing.T, d int) [2]int {
	t.Helper()
	x, y, e := pell.Right(d)
	if e != api.OK {
		t.Fatalf("Right(%d): error %d", d, e)
	}
	return [2]int{x, y}
}

func mustSolve(t *testing.T, d, n, most int) [][2]int {
	t.Helper()
	list, e := pell.Solve(d, n, most)
	if e != api.OK {
		t.Fatalf("Solve(%d, %d, %d): error %d", d, n, most, e)
	}
	return list
}

func mustClasses(t *testing.T, d, n int) [][2]int {
	t.Helper()
	list, e := pell.Classes(d, n)
	if e != api.OK {
		t.Fatalf("Classes(%d, %d): error %d", d, n, e)
	}
	return list
}

func mustSame(t *testing.T, d, n int, a, b [2]int) bool {
	t.Helper()
	same, e := pell.Same(d, n, a, b)
	if e != api.OK {
		t.Fatalf("Same(%d, %d, %v, %v): error %d", d, n, a, b, e)
	}
	return same
}
