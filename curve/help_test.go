package curve_test

import (
	"slices"
	"sync"
	"testing"

	"gherkin/api"
	"gherkin/curve"
)

var primes = []int{5, 7, 11, 13, 17, 19, 23, 29, 31}

var far = curve.Point{Far: true}

func modulo(x, m int) int { return (x%m + m) % m }

// divisor returns the greatest number that divides both.
func divisor(a, b int) int {
	d := max(a, b)
	for a%d > 0 || b%d > 0 {
		d--
	}
	return d
}

// isPrime reports whether n has just two divisors.
func isPrime(n int) bool {
	count := 0
	for d := 1; d <= n; d++ {
		if n%d == 0 {
			count++
		}
	}
	return count == 2
}

// isSmooth reports whether x^3 + A x + B has no double root modulo P. (If it has
// one, that is one of the numbers modulo P.)
func isSmooth(c curve.Curve) bool {
	for x := range c.P {
		if modulo(x*x*x+c.A*x+c.B, c.P) == 0 && modulo(3*x*x+c.A, c.P) == 0 {
			return false
		}
	}
	return true
}

// A group is a curve with its points, in order; these are named by their indices,
// the far one being the last. The sum of points i and j is sums[i][j].
type group struct {
	curve.Curve
	points []curve.Point
	sums   [][]int
}

// groups returns all of them for each prime.
var groups = sync.OnceValue(func() map[int][]group {
	all := map[int][]group{}
	for _, p := range primes {
		for a := range p {
			for b := range p {
				if c := (curve.Curve{P: p, A: a, B: b}); isSmooth(c) {
					all[p] = append(all[p], groupOf(c))
				}
			}
		}
	}
	return all
})

// some returns all groups for the primes up to most, and about one in a step of the
// others.
func some(most, step int) []group {
	var list []group
	for _, p := range primes {
		for i, g := range groups()[p] {
			if p <= most || (i+p)%step == 0 {
				list = append(list, g)
			}
		}
	}
	return list
}

func everyGroup() []group { return some(api.MaxPrime, 1) }

func groupOf(c curve.Curve) group {
	g := group{Curve: c}
	for x := range c.P {
		for y := range c.P {
			if modulo(y*y, c.P) == modulo(x*x*x+c.A*x+c.B, c.P) {
				g.points = append(g.points, curve.Point{X: x, Y: y})
			}
		}
	}
	g.points = append(g.points, far)
	for i := range g.points {
		row := make([]int, len(g.points))
		for j := range row {
			row[j] = g.sum(i, j)
		}
		g.sums = append(g.sums, row)
	}
	return g
}

// last returns the index of the far point.
func (g group) last() int { return len(g.points) - 1 }

func (g group) index(q curve.Point) int { return slices.Index(g.points, q) }

// sum returns that of points i and j by the lines that meet the curve in both: on
// such a line there is a third point, whose negative is the sum.
func (g group) sum(i, j int) int {
	if i == g.last() {
		return j
	}
	if j == g.last() {
		return i
	}
	q, r := g.points[i], g.points[j]
	if q.X == r.X && (q.Y+r.Y)%g.P == 0 {
		return g.last()
	}
	var found []int
	for s := range g.P {
		// On the line y = s x + t, where x^3 + A x + B - y^2 has the three roots.
		t, x := q.Y-s*q.X, modulo(s*s-q.X-r.X, g.P)
		if modulo(s*r.X+t-r.Y, g.P) == 0 && modulo(q.X*r.X+q.X*x+r.X*x-g.A+2*s*t, g.P) == 0 && modulo(q.X*r.X*x-t*t+g.B, g.P) == 0 {
			found = append(found, g.index(curve.Point{X: x, Y: modulo(-s*x-t, g.P)}))
		}
	}
	if len(found) != 1 || found[0] < 0 {
		panic("not just one line")
	}
	return found[0]
}

// turned returns the point that with point i sums to the far one.
func (g group) turned(i int) int { return slices.Index(g.sums[i], g.last()) }

// times returns k times point i, by the binary digits of k.
func (g group) times(i, k int) int {
	left := uint(k)
	if k < 0 {
		i, left = g.turned(i), -left
	}
	at := g.last()
	for ; left > 0; left >>= 1 {
		if left&1 == 1 {
			at = g.sums[at][i]
		}
		i = g.sums[i][i]
	}
	return at
}

func (g group) order(i int) int {
	k := 1
	for at := i; at != g.last(); at = g.sums[at][i] {
		k++
	}
	return k
}

func (g group) orders() []int {
	list := make([]int, len(g.points))
	for i := range list {
		list[i] = g.order(i)
	}
	return list
}

// isBasis reports whether every point is just one sum of a multiple of point i from
// 0 to n - 1 times it and one of point j from 0 to m - 1 times it.
func (g group) isBasis(i, j, m, n int) bool {
	counts := make([]int, len(g.points))
	x := g.last()
	for range n {
		y := g.last()
		for range m {
			counts[g.sums[x][y]]++
			y = g.sums[y][j]
		}
		x = g.sums[x][i]
	}
	return slices.Min(counts) == 1 && slices.Max(counts) == 1
}

// A shape is a shape m, n with the first points i and j of a basis.
type shape struct{ m, n, i, j int }

// shapes returns all that there are.
func (g group) shapes() []shape {
	var list []shape
	orders := g.orders()
	for m := 1; m <= len(g.points); m++ {
		if n := len(g.points) / m; m*n == len(g.points) && n%m == 0 {
			if s, ok := g.shape(m, n, orders); ok {
				list = append(list, s)
			}
		}
	}
	return list
}

func (g group) shape(m, n int, orders []int) (shape, bool) {
	for i := range g.points {
		for j := range g.points {
			if orders[i] == n && orders[j] == m && g.isBasis(i, j, m, n) {
				return shape{m, n, i, j}, true
			}
		}
	}
	return shape{}, false
}

// logarithm returns the least k from 0 on such that k times point i is point j, -1
// if there is none.
func (g group) logarithm(i, j int) int {
	at := g.last()
	for k := range g.points {
		if at == j {
			return k
		}
		at = g.sums[at][i]
	}
	return -1
}

// quotient returns x / y modulo n, or -1 if there is not just one.
func quotient(x, y, n int) int {
	found := -1
	for z := range n {
		if modulo(z*y, n) == modulo(x, n) {
			if found >= 0 {
				return -1
			}
			found = z
		}
	}
	return found
}

// bases returns the points whose order is a prime at least 3.
func (g group) bases() []int {
	var list []int
	for i, n := range g.orders() {
		if n >= 3 && isPrime(n) {
			list = append(list, i)
		}
	}
	return list
}

// seal returns the numbers of the seal with base i, of the order n, of which one
// may be 0.
func (g group) seal(i, n, secret, once, text int) [2]int {
	x := g.points[g.times(i, once)].X % n
	return [2]int{x, quotient(text+x*secret, once, n)}
}

// accepts reports whether a seal is right for base i, of the order n, and the key j.
func (g group) accepts(i, j, n, text int, seal [2]int) bool {
	x, s := seal[0], seal[1]
	if x < 1 || x > n-1 || s < 1 || s > n-1 {
		return false
	}
	at := g.sums[g.times(i, quotient(text, s, n))][g.times(j, quotient(x, s, n))]
	return at != g.last() && g.points[at].X%n == x
}

// isPoint checks a point that is to be found.
func isPoint(t *testing.T, got curve.Point, e api.Errno, want curve.Point, call string, arguments ...any) {
	t.Helper()
	if e != api.OK || got != want {
		t.Errorf("%s of %v: %v, error %d, not %v", call, arguments, got, e, want)
	}
}

// is checks a list that is to be found.
func is[T comparable](t *testing.T, got []T, e api.Errno, want []T, call string, arguments ...any) {
	t.Helper()
	if e != api.OK || !slices.Equal(got, want) {
		t.Errorf("%s of %v: %v, error %d, not %v", call, arguments, got, e, want)
	}
}

// isOne checks a number that is to be found.
func isOne(t *testing.T, got int, e api.Errno, want int, call string, arguments ...any) {
	t.Helper()
	if e != api.OK || got != want {
		t.Errorf("%s of %v: %d, error %d, not %d", call, arguments, got, e, want)
	}
}

// isTrue checks an answer.
func isTrue(t *testing.T, got bool, e api.Errno, want bool, call string, arguments ...any) {
	t.Helper()
	if e != api.OK || got != want {
		t.Errorf("%s of %v: %t, error %d, not %t", call, arguments, got, e, want)
	}
}

func mustPoints(t *testing.T, c curve.Curve) []curve.Point {
	t.Helper()
	l, e := curve.Points(c)
	if e != api.OK {
		t.Fatalf("Points(%v): error %d", c, e)
	}
	return l
}

func mustAdd(t *testing.T, c curve.Curve, q, r curve.Point) curve.Point {
	t.Helper()
	sum, e := curve.Add(c, q, r)
	if e != api.OK {
		t.Fatalf("Add(%v, %v, %v): error %d", c, q, r, e)
	}
	return sum
}

func mustTimes(t *testing.T, c curve.Curve, q curve.Point, k int) curve.Point {
	t.Helper()
	r, e := curve.Times(c, q, k)
	if e != api.OK {
		t.Fatalf("Times(%v, %v, %d): error %d", c, q, k, e)
	}
	return r
}

func mustOrder(t *testing.T, c curve.Curve, q curve.Point) int {
	t.Helper()
	n, e := curve.Order(c, q)
	if e != api.OK {
		t.Fatalf("Order(%v, %v): error %d", c, q, e)
	}
	return n
}

func mustShape(t *testing.T, c curve.Curve) (m, n int) {
	t.Helper()
	m, n, e := curve.Shape(c)
	if e != api.OK {
		t.Fatalf("Shape(%v): error %d", c, e)
	}
	return m, n
}

func mustTwist(t *testing.T, c curve.Curve) curve.Curve {
	t.Helper()
	d, e := curve.Twist(c)
	if e != api.OK {
		t.Fatalf("Twist(%v): error %d", c, e)
	}
	return d
}
