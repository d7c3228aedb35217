package curve_test

import (
	"math"
	"math/rand/v2"
	"testing"

	"gherkin/api"
	"gherkin/curve"
)

var (
	five  = curve.Curve{P: 5, A: 1, B: 1}
	seven = curve.Curve{P: 7, A: 0, B: 6}
	// Over 17 there are 19 points, a prime number.
	whole = curve.Curve{P: 17, A: 2, B: 2}
)

func at(x, y int) curve.Point { return curve.Point{X: x, Y: y} }

// P9.1
func TestPointExamples(t *testing.T) {
	l, e := curve.Points(five)
	is(t, l, e, []curve.Point{at(0, 1), at(0, 4), at(2, 1), at(2, 4), at(3, 1), at(3, 4), at(4, 2), at(4, 3), far}, "Points", five)
	l, e = curve.Points(seven)
	is(t, l, e, []curve.Point{at(1, 0), at(2, 0), at(4, 0), far}, "Points", seven)
	two := curve.Curve{P: 5, A: 2, B: 0}
	l, e = curve.Points(two)
	is(t, l, e, []curve.Point{at(0, 0), far}, "Points", two)
}

// P9.1
func TestPoints(t *testing.T) {
	for _, g := range everyGroup() {
		l, e := curve.Points(g.Curve)
		is(t, l, e, g.points, "Points", g.Curve)
	}
}

// P9.1
func TestOn(t *testing.T) {
	for _, g := range some(13, 9) {
		for x := -2; x < 2*g.P; x++ {
			for y := -2; y < 2*g.P; y++ {
				q := at(x, y)
				ok, e := curve.On(g.Curve, q)
				isTrue(t, ok, e, g.index(q) >= 0, "On", g.Curve, q)
				q.Far = true
				ok, e = curve.On(g.Curve, q)
				isTrue(t, ok, e, x == 0 && y == 0, "On", g.Curve, q)
			}
		}
	}
}

// P9.1: On judges any point.
func TestOnRefutesWhatIsNoPoint(t *testing.T) {
	for _, c := range []curve.Curve{five, seven, whole, {P: 31, A: 30, B: 30}} {
		for _, q := range noPoints(c) {
			ok, e := curve.On(c, q)
			isTrue(t, ok, e, false, "On", c, q)
		}
	}
}

// P9.2
func TestAddExamples(t *testing.T) {
	for _, x := range []struct {
		c         curve.Curve
		q, r, sum curve.Point
	}{
		{five, at(0, 1), at(0, 1), at(4, 2)}, {five, at(0, 1), at(0, 4), far}, {five, at(0, 1), at(4, 2), at(2, 1)}, {five, far, at(3, 4), at(3, 4)}, {five, at(3, 4), far, at(3, 4)}, {five, far, far, far},
		{seven, at(1, 0), at(1, 0), far}, {seven, at(1, 0), at(2, 0), at(4, 0)}, {whole, at(5, 1), at(5, 1), at(6, 3)}, {whole, at(5, 1), at(6, 3), at(10, 6)},
	} {
		sum, e := curve.Add(x.c, x.q, x.r)
		isPoint(t, sum, e, x.sum, "Add", x.c, x.q, x.r)
	}
}

// P9.2
func TestAdd(t *testing.T) {
	for _, g := range everyGroup() {
		for i, q := range g.points {
			for j, r := range g.points {
				sum, e := curve.Add(g.Curve, q, r)
				isPoint(t, sum, e, g.points[g.sums[i][j]], "Add", g.Curve, q, r)
			}
		}
	}
}

// P9.2
func TestTimesExamples(t *testing.T) {
	for k, want := range map[int]curve.Point{0: far, 1: at(0, 1), 2: at(4, 2), 3: at(2, 1), 8: at(0, 4), 9: far, 10: at(0, 1), -1: at(0, 4), -2: at(4, 3), -9: far, 9_000_000_000_000_000_001: at(0, 1)} {
		r, e := curve.Times(five, at(0, 1), k)
		isPoint(t, r, e, want, "Times", five, at(0, 1), k)
	}
}

// P9.2
func TestTimes(t *testing.T) {
	for _, g := range some(11, 25) {
		for i, q := range g.points {
			ks := []int{math.MinInt, math.MinInt + 1, math.MaxInt, math.MaxInt - 1, 1 << 31, 1<<32 + 1, 1 << 62, -1 << 31, -1<<32 - 1, -1 << 62, 1_000_003, -1_000_003}
			for k := -50; k <= 50; k++ {
				ks = append(ks, k)
			}
			for _, k := range ks {
				r, e := curve.Times(g.Curve, q, k)
				isPoint(t, r, e, g.points[g.times(i, k)], "Times", g.Curve, q, k)
			}
		}
	}
}

// P9.2
func TestOrder(t *testing.T) {
	for _, x := range []struct {
		c curve.Curve
		q curve.Point
		n int
	}{{five, at(0, 1), 9}, {five, at(2, 1), 3}, {five, far, 1}, {seven, at(1, 0), 2}, {whole, at(5, 1), 19}} {
		n, e := curve.Order(x.c, x.q)
		isOne(t, n, e, x.n, "Order", x.c, x.q)
	}
	for _, g := range everyGroup() {
		for i, want := range g.orders() {
			n, e := curve.Order(g.Curve, g.points[i])
			isOne(t, n, e, want, "Order", g.Curve, g.points[i])
		}
	}
}

// P9.3
func TestShapeExamples(t *testing.T) {
	for c, want := range map[curve.Curve][2]int{five: {1, 9}, seven: {2, 2}, whole: {1, 19}, {P: 5, A: 2, B: 0}: {1, 2}, {P: 5, A: 4, B: 0}: {2, 4}, {P: 7, A: 0, B: 2}: {3, 3}} {
		m, n, e := curve.Shape(c)
		if m != want[0] || n != want[1] || e != api.OK {
			t.Errorf("Shape(%v): %d %d, error %d", c, m, n, e)
		}
	}
	q, r, e := curve.Basis(five)
	isPoint(t, q, e, at(0, 1), "Basis", five)
	isPoint(t, r, e, far, "Basis", five)
	q, r, e = curve.Basis(seven)
	isPoint(t, q, e, at(1, 0), "Basis", seven)
	isPoint(t, r, e, at(2, 0), "Basis", seven)
}

// P9.3
func TestShapeAndBasis(t *testing.T) {
	split := 0
	for _, g := range everyGroup() {
		shapes := g.shapes()
		if len(shapes) != 1 {
			t.Fatalf("the shapes of %v: %v", g.Curve, shapes)
		}
		want := shapes[0]
		m, n, e := curve.Shape(g.Curve)
		if m != want.m || n != want.n || e != api.OK {
			t.Errorf("Shape(%v): %d %d, error %d", g.Curve, m, n, e)
		}
		q, r, e := curve.Basis(g.Curve)
		isPoint(t, q, e, g.points[want.i], "Basis", g.Curve)
		isPoint(t, r, e, g.points[want.j], "Basis", g.Curve)
		if m > 1 && m < n {
			split++
		}
	}
	if split < 200 {
		t.Errorf("only %d groups with two different numbers above 1", split)
	}
}

// isLog checks a logarithm, which is -1 if there is none.
func isLog(t *testing.T, c curve.Curve, q, r curve.Point, want int) {
	t.Helper()
	k, e := curve.Log(c, q, r)
	if want >= 0 {
		isOne(t, k, e, want, "Log", c, q, r)
	} else if k != 0 || e != api.ErrNone {
		t.Errorf("Log(%v, %v, %v): %d, error %d", c, q, r, k, e)
	}
}

// P9.4
func TestLog(t *testing.T) {
	for _, x := range []struct {
		c    curve.Curve
		q, r curve.Point
		k    int
	}{{five, at(0, 1), at(4, 2), 2}, {five, at(0, 1), far, 0}, {five, far, far, 0}, {five, far, at(0, 1), -1}, {five, at(2, 1), at(0, 1), -1}, {five, at(2, 1), at(2, 4), 2}, {seven, at(1, 0), at(2, 0), -1}} {
		isLog(t, x.c, x.q, x.r, x.k)
	}
	for _, g := range some(19, 4) {
		for i, q := range g.points {
			for j, r := range g.points {
				isLog(t, g.Curve, q, r, g.logarithm(i, j))
			}
		}
	}
}

// P9.5
func TestTorsion(t *testing.T) {
	l, e := curve.Torsion(seven, 2)
	is(t, l, e, []curve.Point{at(1, 0), at(2, 0), at(4, 0), far}, "Torsion", seven, 2)
	l, e = curve.Torsion(five, 3)
	is(t, l, e, []curve.Point{at(2, 1), at(2, 4), far}, "Torsion", five, 3)
	l, e = curve.Torsion(five, 50)
	is(t, l, e, []curve.Point{far}, "Torsion", five, 50)
	for _, g := range some(13, 15) {
		for k := 1; k <= 50; k++ {
			var want []curve.Point
			for i, q := range g.points {
				if g.times(i, k) == g.last() {
					want = append(want, q)
				}
			}
			l, e := curve.Torsion(g.Curve, k)
			is(t, l, e, want, "Torsion", g.Curve, k)
		}
	}
}

// P9.6
func TestTwist(t *testing.T) {
	least := map[int]int{5: 2, 7: 3, 11: 2, 13: 2, 17: 3, 19: 2, 23: 5, 29: 2, 31: 3}
	for _, g := range everyGroup() {
		u := least[g.P]
		want := curve.Curve{P: g.P, A: g.A * u * u % g.P, B: g.B * u * u * u % g.P}
		d, e := curve.Twist(g.Curve)
		if d != want || e != api.OK {
			t.Errorf("Twist(%v): %v, error %d", g.Curve, d, e)
		}
	}
	if d, e := curve.Twist(five); d != (curve.Curve{P: 5, A: 4, B: 3}) || e != api.OK {
		t.Errorf("Twist(%v): %v, error %d", five, d, e)
	}
}

// power returns x^k modulo p.
func power(x, k, p int) int {
	all := 1
	for range k {
		all = all * x % p
	}
	return all
}

// likenesses returns all v by which c and d are alike, rising.
func likenesses(c, d curve.Curve) []int {
	var list []int
	for v := 1; v < c.P; v++ {
		if d.A == c.A*power(v, 4, c.P)%c.P && d.B == c.B*power(v, 6, c.P)%c.P {
			list = append(list, v)
		}
	}
	return list
}

// P9.6
func TestAlike(t *testing.T) {
	counts := map[int]int{}
	for _, p := range primes {
		for i, g := range groups()[p] {
			if p > 13 && (i+p)%10 > 0 {
				continue
			}
			for _, h := range groups()[p] {
				v, e := curve.Alike(g.Curve, h.Curve)
				counts[v]++
				if all := likenesses(g.Curve, h.Curve); len(all) > 0 {
					isOne(t, v, e, all[0], "Alike", g.Curve, h.Curve)
				} else if v != 0 || e != api.ErrNone {
					t.Errorf("Alike(%v, %v): %d, error %d", g.Curve, h.Curve, v, e)
				}
			}
		}
	}
	for v := range 15 {
		if counts[v] < 20 {
			t.Errorf("only %d times %d", counts[v], v)
		}
	}
	v, e := curve.Alike(five, curve.Curve{P: 5, A: 1, B: 4})
	isOne(t, v, e, 2, "Alike", five)
	if v, e := curve.Alike(five, mustTwist(t, five)); v != 0 || e != api.ErrNone {
		t.Errorf("Alike(%v) to its twist: %d, error %d", five, v, e)
	}
}

// P9.7
func TestCounts(t *testing.T) {
	l, e := curve.Counts(5)
	is(t, l, e, [][2]int{{2, 1}, {3, 2}, {4, 3}, {5, 2}, {6, 4}, {7, 2}, {8, 3}, {9, 2}, {10, 1}}, "Counts", 5)
	for _, p := range primes {
		var want [][2]int
		for n := range 3 * p {
			many := 0
			for _, g := range groups()[p] {
				if len(g.points) == n {
					many++
				}
			}
			if many > 0 {
				want = append(want, [2]int{n, many})
			}
		}
		l, e := curve.Counts(p)
		is(t, l, e, want, "Counts", p)
	}
}

// isSeal checks a seal, which has a 0 if there is none, and returns the error.
func isSeal(t *testing.T, g group, i, n, secret, once, text int) api.Errno {
	t.Helper()
	seal, e := curve.Seal(g.Curve, g.points[i], secret, once, text)
	want, failure := g.seal(i, n, secret, once, text), api.OK
	if want[0] == 0 || want[1] == 0 {
		want, failure = [2]int{}, api.ErrNone
	}
	if seal != want || e != failure {
		t.Errorf("Seal(%v, %v, %d, %d, %d): %v, error %d, not %v, error %d", g.Curve, g.points[i], secret, once, text, seal, e, want, failure)
	}
	return e
}

// P9.8
func TestSealsOfSmallCurves(t *testing.T) {
	counts := map[api.Errno]int{}
	for _, g := range append(some(5, 100), groupOf(whole)) {
		bases := g.bases()
		for _, i := range bases[:min(4, len(bases))] {
			n := g.order(i)
			for secret := 1; secret < n; secret++ {
				for once := 1; once < n; once++ {
					for text := range n {
						counts[isSeal(t, g, i, n, secret, once, text)]++
					}
				}
			}
		}
	}
	if counts[api.OK] < 10_000 || counts[api.ErrNone] < 1000 {
		t.Errorf("only %v seals and errors", counts)
	}
}

// drawn calls visit for groups, bases i of the order n, and random numbers.
func drawn(count int, visit func(g group, i, n int, random *rand.Rand)) {
	random := rand.New(rand.NewPCG(9, 8))
	list := everyGroup()
	for count > 0 {
		g := list[random.IntN(len(list))]
		bases := g.bases()
		if len(bases) == 0 {
			continue
		}
		i := bases[random.IntN(len(bases))]
		visit(g, i, g.order(i), random)
		count--
	}
}

// P9.8
func TestSeal(t *testing.T) {
	counts := map[api.Errno]int{}
	drawn(20_000, func(g group, i, n int, random *rand.Rand) {
		counts[isSeal(t, g, i, n, 1+random.IntN(n-1), 1+random.IntN(n-1), random.IntN(n))]++
	})
	if counts[api.OK] < 5000 || counts[api.ErrNone] < 500 {
		t.Errorf("only %v seals and errors", counts)
	}
}

// P9.8
func TestSealExamples(t *testing.T) {
	g := at(5, 1)
	key := mustTimes(t, whole, g, 4)
	// 3 times g is 10 6: x is 10, and 3 times 3 is 7 + 10 * 4, less 38.
	seal, e := curve.Seal(whole, g, 4, 3, 7)
	is(t, seal[:], e, []int{10, 3}, "Seal", whole)
	for _, x := range []struct {
		text int
		seal [2]int
		want bool
	}{
		{7, [2]int{10, 3}, true}, {7, [2]int{10, 16}, true}, {7, [2]int{10, 4}, false}, {7, [2]int{11, 3}, false}, {9, [2]int{10, 3}, false},
		// (8 + 10 * 4) / 3 is 16, and 16 times g is what 3 times g is with the Y turned.
		{8, [2]int{10, 3}, true},
	} {
		ok, e := curve.Check(whole, g, key, x.text, x.seal)
		isTrue(t, ok, e, x.want, "Check", whole, g, key, x.text, x.seal)
	}
	ok, e := curve.Check(whole, g, g, 7, [2]int{10, 3})
	isTrue(t, ok, e, false, "Check", whole, g, g)
	seal, e = curve.Seal(five, at(2, 1), 1, 1, 0)
	is(t, seal[:], e, []int{2, 2}, "Seal", five)
	// 7 times g is 0 6: x is 0.
	if seal, e := curve.Seal(whole, g, 4, 7, 1); seal != [2]int{} || e != api.ErrNone {
		t.Errorf("Seal with x 0: %v, error %d", seal, e)
	}
	// 17 + 10 * 4 is 3 times 19: s is 0.
	if seal, e := curve.Seal(whole, g, 4, 3, 17); seal != [2]int{} || e != api.ErrNone {
		t.Errorf("Seal with s 0: %v, error %d", seal, e)
	}
}

// P9.8: all seals for a few keys, also such that are no multiples of the base.
func TestCheckAllSeals(t *testing.T) {
	counts := map[bool]int{}
	for _, g := range append(some(5, 151), groupOf(whole)) {
		bases := g.bases()
		for _, i := range bases[:min(2, len(bases))] {
			n := g.order(i)
			for _, text := range []int{0, 1, n / 2, n - 1} {
				for j := 0; j < len(g.points); j += 1 + g.P/8 {
					for x := -1; x <= n+1; x++ {
						for s := -1; s <= n+1; s++ {
							want := g.accepts(i, j, n, text, [2]int{x, s})
							ok, e := curve.Check(g.Curve, g.points[i], g.points[j], text, [2]int{x, s})
							isTrue(t, ok, e, want, "Check", g.Curve, g.points[i], g.points[j], text, x, s)
							counts[want]++
						}
					}
				}
			}
		}
	}
	if counts[true] < 1000 || counts[false] < 10_000 {
		t.Errorf("only %v seals", counts)
	}
}

// P9.8
func TestCheck(t *testing.T) {
	counts, other := map[bool]int{}, map[bool]int{}
	drawn(60_000, func(g group, i, n int, random *rand.Rand) {
		j, text, seal := random.IntN(len(g.points)), random.IntN(n), [2]int{1 + random.IntN(n-1), 1 + random.IntN(n-1)}
		want := g.accepts(i, j, n, text, seal)
		ok, e := curve.Check(g.Curve, g.points[i], g.points[j], text, seal)
		isTrue(t, ok, e, want, "Check", g.Curve, g.points[i], g.points[j], text, seal)
		if g.logarithm(i, j) >= 0 {
			counts[want]++
		} else {
			other[want]++
		}
	})
	if counts[true] < 1000 || counts[false] < 1000 || other[true] < 100 || other[false] < 1000 {
		t.Errorf("only %v seals for keys of the base, and %v for others", counts, other)
	}
}

// P9.8: Check judges any seal.
func TestCheckRefutesWhatIsNoSeal(t *testing.T) {
	for _, x := range []struct {
		c curve.Curve
		g curve.Point
	}{{whole, at(5, 1)}, {five, at(2, 1)}} {
		n := mustOrder(t, x.c, x.g)
		seal, e := curve.Seal(x.c, x.g, 1, 1, 0)
		if e != api.OK {
			t.Fatalf("Seal: error %d", e)
		}
		numbers := append(wrong(1, n-1), 0, n, n+seal[0], n+seal[1], seal[0]-n, seal[1]-n, 1<<32+seal[0], 1<<32+seal[1], n<<40+seal[0], n<<40+seal[1])
		for _, k := range numbers {
			for _, seal := range [][2]int{{k, seal[1]}, {seal[0], k}, {k, k}} {
				ok, e := curve.Check(x.c, x.g, x.g, 0, seal)
				isTrue(t, ok, e, false, "Check", x.c, x.g, seal)
			}
		}
	}
}
