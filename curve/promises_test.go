package curve_test

import (
	"math/rand/v2"
	"testing"

	"gherkin/api"
	"gherkin/curve"
)

// isAssociative checks q + (r + s).
func isAssociative(t *testing.T, c curve.Curve, q, r, s curve.Point) {
	t.Helper()
	sum := mustAdd(t, c, q, mustAdd(t, c, r, s))
	isPoint(t, sum, api.OK, mustAdd(t, c, mustAdd(t, c, q, r), s), "Add", c, q, r, s)
}

// P9.9
func TestGroup(t *testing.T) {
	for _, g := range everyGroup() {
		l := mustPoints(t, g.Curve)
		for i, q := range l {
			for _, r := range l[:i] {
				sum := mustAdd(t, g.Curve, q, r)
				isPoint(t, sum, api.OK, mustAdd(t, g.Curve, r, q), "Add", g.Curve, q, r)
				ok, e := curve.On(g.Curve, sum)
				isTrue(t, ok, e, true, "On", g.Curve, sum)
			}
		}
	}
}

// P9.9
func TestSumsOfThree(t *testing.T) {
	for _, g := range some(7, 90) {
		for _, q := range g.points {
			for _, r := range g.points {
				for _, s := range g.points {
					isAssociative(t, g.Curve, q, r, s)
				}
			}
		}
	}
	random := rand.New(rand.NewPCG(9, 9))
	for _, g := range everyGroup() {
		for range 60 {
			isAssociative(t, g.Curve, g.points[random.IntN(len(g.points))], g.points[random.IntN(len(g.points))], g.points[random.IntN(len(g.points))])
		}
	}
}

// P9.9
func TestOrdersDivide(t *testing.T) {
	for _, g := range everyGroup() {
		l := mustPoints(t, g.Curve)
		m, n := mustShape(t, g.Curve)
		if m < 1 || n%m > 0 || m*n != len(l) || (g.P-1)%m > 0 {
			t.Errorf("Shape(%v): %d %d", g.Curve, m, n)
		}
		for _, q := range l {
			if k := mustOrder(t, g.Curve, q); len(l)%k > 0 || n%k > 0 {
				t.Errorf("Order(%v, %v): %d", g.Curve, q, k)
			}
		}
	}
}

// P9.10
func TestHasse(t *testing.T) {
	for _, g := range everyGroup() {
		n := len(mustPoints(t, g.Curve))
		if d := n - g.P - 1; d*d > 4*g.P {
			t.Errorf("%v has %d points", g.Curve, n)
		}
		isOne(t, n+len(mustPoints(t, mustTwist(t, g.Curve))), api.OK, 2*g.P+2, "the points of both", g.Curve)
	}
}

// isMapped checks that v makes the points of c those of d.
func isMapped(t *testing.T, c, d curve.Curve, v int) {
	t.Helper()
	points := map[curve.Point]bool{}
	for _, q := range mustPoints(t, c) {
		if !q.Far {
			q = at(q.X*v*v%c.P, q.Y*v*v*v%c.P)
		}
		points[q] = true
	}
	l := mustPoints(t, d)
	for _, q := range l {
		if !points[q] {
			t.Errorf("%v is of %v, but not of %v by %d", q, d, c, v)
		}
	}
	isOne(t, len(points), api.OK, len(l), "the points of both", c, d)
}

// P9.11
func TestAlikeCurves(t *testing.T) {
	alike := 0
	for _, g := range some(11, 20) {
		for _, h := range groups()[g.P] {
			v, e := curve.Alike(g.Curve, h.Curve)
			if e != api.OK {
				continue
			}
			alike++
			m, n := mustShape(t, g.Curve)
			m2, n2 := mustShape(t, h.Curve)
			if m != m2 || n != n2 {
				t.Errorf("%v and %v are alike, but not their shapes", g.Curve, h.Curve)
			}
			isMapped(t, g.Curve, h.Curve, v)
		}
	}
	if alike < 1000 {
		t.Errorf("only %d pairs are alike", alike)
	}
}

// P9.12
func TestTorsionAndShape(t *testing.T) {
	for _, g := range some(11, 12) {
		m, n := mustShape(t, g.Curve)
		for k := 1; k <= 50; k++ {
			l, e := curve.Torsion(g.Curve, k)
			isOne(t, len(l), e, divisor(k, m)*divisor(k, n), "the points of Torsion", g.Curve, k)
		}
	}
}

// P9.13
func TestLogOfTimes(t *testing.T) {
	for _, g := range some(11, 15) {
		for _, q := range mustPoints(t, g.Curve) {
			n := mustOrder(t, g.Curve, q)
			for _, k := range []int{0, 1, 2, 3, n - 1, n, n + 1, 7 * n, -1, -n, -n - 1, 1_000_000_007, -1 << 62} {
				x, e := curve.Log(g.Curve, q, mustTimes(t, g.Curve, q, k))
				isOne(t, x, e, modulo(k, n), "Log", g.Curve, q, k)
			}
		}
	}
}

// P9.14
func TestCheckAcceptsSeals(t *testing.T) {
	done := 0
	drawn(20_000, func(g group, i, n int, random *rand.Rand) {
		base, secret, text := g.points[i], 1+random.IntN(n-1), random.IntN(n)
		seal, e := curve.Seal(g.Curve, base, secret, 1+random.IntN(n-1), text)
		if e != api.OK {
			return
		}
		done++
		key := mustTimes(t, g.Curve, base, secret)
		for _, s := range []int{seal[1], n - seal[1]} {
			ok, e := curve.Check(g.Curve, base, key, text, [2]int{seal[0], s})
			isTrue(t, ok, e, true, "Check", g.Curve, base, key, text, seal, s)
		}
	})
	if done < 5000 {
		t.Errorf("only %d seals", done)
	}
}

// P9.15
func TestCountsSum(t *testing.T) {
	for _, p := range primes {
		l, e := curve.Counts(p)
		sum := 0
		for _, x := range l {
			sum += x[1]
		}
		isOne(t, sum, e, p*p-p, "Counts", p)
	}
}

// P9.15
func TestClasses(t *testing.T) {
	for _, g := range some(11, 8) {
		class := 0
		for _, h := range groups()[g.P] {
			if _, e := curve.Alike(g.Curve, h.Curve); e == api.OK {
				class++
			}
		}
		isOne(t, class*len(likenesses(g.Curve, g.Curve)), api.OK, g.P-1, "the curves alike, times the ways to be alike to itself", g.Curve)
	}
}
