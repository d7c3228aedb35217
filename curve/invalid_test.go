package curve_test

import (
	"math"
	"slices"
	"testing"

	"gherkin/api"
	"gherkin/curve"
)

// wrong returns numbers of any size and sign that are not from low to high, also
// some that would be with fewer bits.
func wrong(low, high int) []int {
	return []int{
		low - 1, low - 2, low - 100_000, high + 1, high + 2, high + 100_000, 1<<40 + high, 1<<48 + low, 1<<32 + low, 1<<32 + high,
		1<<62 + low, 1<<62 + high, -1<<48 + high, -1<<62 + low, math.MaxInt, math.MinInt, math.MinInt + high, math.MaxInt - high,
	}
}

// refused checks that there is no value together with ErrArg.
func refused(t *testing.T, e api.Errno, noValue bool, call string, arguments ...any) {
	t.Helper()
	if e != api.ErrArg || !noValue {
		t.Errorf("%s of %v: error %d, no value: %t; not ErrArg without a value", call, arguments, e, noValue)
	}
}

// noPoints returns points that are none of c, also such that would be modulo P.
func noPoints(c curve.Curve) []curve.Point {
	list := []curve.Point{{X: 1, Far: true}, {Y: 1, Far: true}, {X: -1, Far: true}, {X: c.P, Far: true}, {Y: c.P, Far: true}, {Y: math.MinInt, Far: true}}
	for x := range c.P {
		for y := range c.P {
			if modulo(y*y-x*x*x-c.A*x-c.B, c.P) != 0 {
				list = append(list, at(x, y))
				continue
			}
			list = append(list, at(x+c.P, y), at(x-c.P, y), at(x, y+c.P), at(x, y-c.P), at(x+c.P<<40, y), at(x, y+c.P<<40), at(1<<32+x, y), at(x, 1<<32+y), at(x+math.MinInt, y), at(x, y+math.MinInt))
			if x > 0 || y > 0 {
				list = append(list, curve.Point{X: x, Y: y, Far: true})
			}
		}
	}
	for _, x := range wrong(0, c.P-1) {
		list = append(list, at(x, 0), at(0, x), at(x, x))
	}
	return list
}

// noCurves returns curves that are none, some of them because of P, A or B alone,
// and some of them because of double roots.
func noCurves() []curve.Curve {
	list := []curve.Curve{{}, {P: 5}, {P: 31}, {P: -5, A: 1, B: 1}, {P: -5, A: -1, B: -1}, {A: 1, B: 1}}
	for p := -3; p <= 60; p++ {
		if slices.Contains(primes, p) {
			continue
		}
		for _, x := range [][2]int{{1, 1}, {0, 1}, {1, 0}, {2, 3}, {4, 2}, {0, 0}} {
			list = append(list, curve.Curve{P: p, A: x[0], B: x[1]})
		}
	}
	for _, p := range wrong(5, api.MaxPrime) {
		list = append(list, curve.Curve{P: p, A: 1, B: 1}, curve.Curve{P: p, A: 0, B: 3}, curve.Curve{P: p, A: p, B: p})
	}
	for _, p := range primes {
		for _, x := range append(wrong(0, p-1), p, -1, p*p) {
			list = append(list, curve.Curve{P: p, A: x, B: 1}, curve.Curve{P: p, A: 1, B: x}, curve.Curve{P: p, A: x, B: x})
		}
		for a := range p {
			for b := range p {
				if c := (curve.Curve{P: p, A: a, B: b}); !isSmooth(c) {
					list = append(list, c)
				}
			}
		}
	}
	return list
}

// refusedPoint checks that no function of a point takes q with c.
func refusedPoint(t *testing.T, c curve.Curve, q curve.Point) {
	t.Helper()
	for _, k := range []int{0, 1, -1, 2, math.MinInt} {
		r, e := curve.Times(c, q, k)
		refused(t, e, r == curve.Point{}, "Times", c, q, k)
	}
	n, e := curve.Order(c, q)
	refused(t, e, n == 0, "Order", c, q)
	for _, x := range [][3]int{{1, 1, 1}, {2, 1, 0}, {0, 0, 0}, {1, 2, 100}} {
		seal, e := curve.Seal(c, q, x[0], x[1], x[2])
		refused(t, e, seal == [2]int{}, "Seal", c, q, x)
	}
}

// refusedPoints checks that no function of two points takes q and r with c.
func refusedPoints(t *testing.T, c curve.Curve, q, r curve.Point) {
	t.Helper()
	sum, e := curve.Add(c, q, r)
	refused(t, e, sum == curve.Point{}, "Add", c, q, r)
	k, e := curve.Log(c, q, r)
	refused(t, e, k == 0, "Log", c, q, r)
	for _, seal := range [][2]int{{}, {1, 1}, {-1, 100}} {
		ok, e := curve.Check(c, q, r, 0, seal)
		refused(t, e, !ok, "Check", c, q, r, seal)
	}
}

// refusedCurve checks that no function of a curve alone takes c.
func refusedCurve(t *testing.T, c curve.Curve) {
	t.Helper()
	l, e := curve.Points(c)
	refused(t, e, len(l) == 0, "Points", c)
	m, n, e := curve.Shape(c)
	refused(t, e, m == 0 && n == 0, "Shape", c)
	q, r, e := curve.Basis(c)
	refused(t, e, q == curve.Point{} && r == curve.Point{}, "Basis", c)
	for _, k := range []int{1, 2, 50, 0, 51} {
		l, e := curve.Torsion(c, k)
		refused(t, e, len(l) == 0, "Torsion", c, k)
	}
	d, e := curve.Twist(c)
	refused(t, e, d == curve.Curve{}, "Twist", c)
	for _, d := range []curve.Curve{c, five, seven, {P: c.P, A: 1, B: 1}, {P: c.P, A: 1, B: 3}, {P: c.P}} {
		v, e := curve.Alike(c, d)
		refused(t, e, v == 0, "Alike", c, d)
		v, e = curve.Alike(d, c)
		refused(t, e, v == 0, "Alike", d, c)
	}
}

// P9.1 to P9.6, P9.8
func TestNoFunctionTakesAnotherCurve(t *testing.T) {
	points := []curve.Point{far, at(0, 0), at(0, 1), at(1, 1), at(2, 1), at(1, 0), at(-1, 0)}
	for _, c := range noCurves() {
		refusedCurve(t, c)
		for i, q := range points {
			ok, e := curve.On(c, q)
			refused(t, e, !ok, "On", c, q)
			refusedPoint(t, c, q)
			refusedPoints(t, c, q, q)
			refusedPoints(t, c, q, points[i/2])
		}
	}
}

// P9.2, P9.4, P9.8
func TestNoFunctionTakesAnotherPoint(t *testing.T) {
	for _, c := range []curve.Curve{five, seven, whole, {P: 11, A: 1, B: 6}, {P: 31, A: 30, B: 30}} {
		good := mustPoints(t, c)
		for i, q := range noPoints(c) {
			refusedPoint(t, c, q)
			refusedPoints(t, c, q, q)
			refusedPoints(t, c, q, good[i%len(good)])
			refusedPoints(t, c, good[i%len(good)], q)
			refusedPoints(t, c, far, q)
			refusedPoints(t, c, q, far)
		}
	}
}

// P9.5
func TestTorsionTakesNoOtherNumber(t *testing.T) {
	for _, c := range []curve.Curve{five, seven, whole} {
		for _, k := range append(wrong(1, 50), 0, -1, 51, 100) {
			l, e := curve.Torsion(c, k)
			refused(t, e, len(l) == 0, "Torsion", c, k)
		}
	}
}

// P9.6
func TestAlikeTakesNoOtherPrime(t *testing.T) {
	for _, p := range primes {
		for _, q := range primes {
			if p == q {
				continue
			}
			for _, c := range []curve.Curve{{P: p, A: 1, B: 0}, groups()[p][3].Curve} {
				for _, d := range []curve.Curve{{P: q, A: 1, B: 0}, groups()[q][5].Curve} {
					v, e := curve.Alike(c, d)
					refused(t, e, v == 0, "Alike", c, d)
				}
			}
		}
	}
}

// P9.7
func TestCountsTakesNoOtherPrime(t *testing.T) {
	no := append(wrong(5, 31), 37, 41, 10_007, 2_147_483_647, -5, -7, -31)
	for p := -3; p <= 100; p++ {
		if !slices.Contains(primes, p) {
			no = append(no, p)
		}
	}
	for _, p := range no {
		l, e := curve.Counts(p)
		refused(t, e, len(l) == 0, "Counts", p)
	}
}

// P9.8: the order of g is a prime at least 3.
func TestNoSealWithAnotherOrder(t *testing.T) {
	orders := map[int]bool{}
	for _, g := range some(11, 30) {
		for i, n := range g.orders() {
			if n >= 3 && isPrime(n) {
				continue
			}
			orders[n] = true
			q := g.points[i]
			for _, x := range [][3]int{{1, 1, 0}, {1, 1, 1}, {1, 2, 3}, {0, 0, 0}, {n - 1, n - 1, n - 1}} {
				seal, e := curve.Seal(g.Curve, q, x[0], x[1], x[2])
				refused(t, e, seal == [2]int{}, "Seal", g.Curve, q, x)
			}
			for _, key := range g.points {
				for _, seal := range [][2]int{{}, {1, 1}, {1, 2}} {
					ok, e := curve.Check(g.Curve, q, key, 0, seal)
					refused(t, e, !ok, "Check", g.Curve, q, key, seal)
				}
			}
		}
	}
	for _, n := range []int{1, 2, 4, 6, 8, 9, 10, 12, 15, 21, 25} {
		if !orders[n] {
			t.Errorf("no point of the order %d", n)
		}
	}
}

// P9.8
func TestNoSealWithOtherNumbers(t *testing.T) {
	for _, x := range []struct {
		c curve.Curve
		g curve.Point
		n int
	}{{whole, at(5, 1), 19}, {five, at(2, 1), 3}} {
		for _, k := range append(wrong(1, x.n-1), 0, x.n, x.n+1, -x.n, 2*x.n+1) {
			for _, y := range [][3]int{{k, 1, 1}, {1, k, 1}, {k, k, 1}, {k, 1, k}} {
				seal, e := curve.Seal(x.c, x.g, y[0], y[1], y[2])
				refused(t, e, seal == [2]int{}, "Seal", x, y)
			}
		}
		for _, text := range append(wrong(0, x.n-1), x.n, x.n+1, -x.n, 2*x.n+1) {
			for _, y := range [][2]int{{1, 1}, {1, 2}, {2, 1}} {
				seal, e := curve.Seal(x.c, x.g, y[0], y[1], text)
				refused(t, e, seal == [2]int{}, "Seal", x, y, text)
			}
			for _, seal := range [][2]int{{1, 1}, {2, 2}, {}, {-1, 99}} {
				ok, e := curve.Check(x.c, x.g, x.g, text, seal)
				refused(t, e, !ok, "Check", x, text, seal)
			}
		}
	}
}

// spoiled calls f, writes over its result, and calls it again: the second result
// must be as the first one was.
func spoiled[T comparable](t *testing.T, name string, f func() ([]T, api.Errno)) {
	t.Helper()
	result, e := f()
	want := slices.Clone(result)
	var none T
	for i := range result {
		result[i] = none
	}
	_ = append(result, none)
	again, e2 := f()
	if e != api.OK || e2 != api.OK || !slices.Equal(again, want) || len(want) == 0 {
		t.Errorf("%s: %v, and later %v; errors %d and %d", name, want, again, e, e2)
	}
}

// Rule 4: who changes a result does not change a later one.
func TestResultsAreNew(t *testing.T) {
	spoiled(t, "Points", func() ([]curve.Point, api.Errno) { return curve.Points(five) })
	spoiled(t, "Torsion", func() ([]curve.Point, api.Errno) { return curve.Torsion(seven, 2) })
	spoiled(t, "Counts", func() ([][2]int, api.Errno) { return curve.Counts(7) })
}
