package pell_test

import (
	"slices"
	"testing"

	"gherkin/api"
	"gherkin/pell"
)

// P1.8
func TestTheNormIsTheParityOfThePeriod(t *testing.T) {
	for _, d := range allD() {
		period := len(mustExpand(t, d)) - 1
		s, norm := mustUnit(t, d)
		if (norm == -1) != (period%2 == 1) {
			t.Errorf("D %d: norm %d, period %d", d, norm, period)
		}
		want := s
		if norm == -1 {
			want = [2]int{s[0]*s[0] + d*s[1]*s[1], 2 * s[0] * s[1]}
		}
		if right := mustRight(t, d); right != want {
			t.Errorf("Right(%d): %v, not %v", d, right, want)
		}
		p, q, e := pell.Convergent(d, period-1)
		if e != api.OK || [2]int{p, q} != s {
			t.Errorf("Convergent(%d, %d): %d %d, error %d, not %v", d, period-1, p, q, e, s)
		}
	}
}

// convergents returns all that Convergent has for d.
func convergents(t *testing.T, d int) [][2]int {
	t.Helper()
	var list [][2]int
	for k := range 21 {
		p, q, e := pell.Convergent(d, k)
		if e == api.ErrSize {
			break
		}
		if e != api.OK {
			t.Fatalf("Convergent(%d, %d): error %d", d, k, e)
		}
		list = append(list, [2]int{p, q})
	}
	return list
}

// P1.9
func TestConvergentsCrossByTurns(t *testing.T) {
	for _, d := range allD() {
		list := convergents(t, d)
		if len(list) < 10 {
			t.Errorf("D %d has %d convergents alone", d, len(list))
		}
		want := 1
		for k := 1; k < len(list); k++ {
			// The products may wrap around, their difference does not.
			if cross := list[k][0]*list[k-1][1] - list[k-1][0]*list[k][1]; cross != want {
				t.Errorf("D %d, k %d: %d, not %d", d, k, cross, want)
			}
			want = -want
		}
	}
}

// P1.9
func TestBestIsAConvergent(t *testing.T) {
	for _, d := range allD() {
		list := convergents(t, d)
		for most := 1; most <= 1000; most++ {
			p, q, e := pell.Best(d, most)
			if e != api.OK || !slices.Contains(list, [2]int{p, q}) {
				t.Errorf("Best(%d, %d): %d %d, error %d, is no convergent", d, most, p, q, e)
			}
		}
	}
}

// P1.9
func TestSmallNumbersAreReachedByConvergents(t *testing.T) {
	count := 0
	for _, d := range allD() {
		list := convergents(t, d)
		for n := -9; n <= 9; n++ {
			if n == 0 || n*n >= d {
				continue
			}
			for _, s := range mustSolve(t, d, n, 5000) {
				if s[0] < 1 || s[1] < 1 || factor(s[0], s[1]) > 1 {
					continue
				}
				count++
				if !slices.Contains(list, s) {
					t.Errorf("D %d, n %d: %v is no convergent", d, n, s)
				}
			}
		}
	}
	if count < 500 {
		t.Errorf("only %d solutions were looked at", count)
	}
}

// factor returns the greatest common factor of a and b.
func factor(a, b int) int {
	for b != 0 {
		a, b = b, a%b
	}
	return a
}

// P1.10
func TestTheRightUnitKeepsTheClass(t *testing.T) {
	count := 0
	for _, d := range allD() {
		right := mustRight(t, d)
		if right[1] > 100_000 {
			continue // all products are above the limits of Same
		}
		for _, n := range allN() {
			for _, s := range mustClasses(t, d, n) {
				for _, u := range [][2]int{right, {right[0], -right[1]}} {
					next := product(d, s, u)
					if !forSame(next) {
						continue
					}
					count++
					if !mustSame(t, d, n, s, next) {
						t.Errorf("D %d, n %d: %v and %v are of two classes", d, n, s, next)
					}
				}
			}
		}
	}
	if count < 5000 {
		t.Errorf("only %d products were looked at", count)
	}
}

// P1.10
func TestAClassComesByTheRightUnit(t *testing.T) {
	for _, d := range allD() {
		right := mustRight(t, d)
		for _, n := range allN() {
			firsts := mustClasses(t, d, n)
			for _, s := range mustSolve(t, d, n, 1000) {
				for _, signed := range [][2]int{s, {-s[0], s[1]}} {
					checkComes(t, d, n, signed, firsts, right)
				}
			}
		}
	}
}

// checkComes checks that s is of the class of just one of firsts, and that the
// powers of the right unit lead from s to that one, up to the signs of both.
func checkComes(t *testing.T, d, n int, s [2]int, firsts [][2]int, right [2]int) {
	t.Helper()
	var own [][2]int
	for _, first := range firsts {
		if mustSame(t, d, n, first, s) {
			own = append(own, first)
		}
	}
	if len(own) != 1 {
		t.Errorf("D %d, n %d: %v is of the classes of %v", d, n, s, own)
		return
	}
	for _, u := range [][2]int{right, {right[0], -right[1]}} {
		at := s
		for range 20 {
			if at == own[0] || at == [2]int{-own[0][0], -own[0][1]} {
				return
			}
			if withoutSigns(at)[1] > 1_000_000 {
				break
			}
			at = product(d, at, u)
		}
	}
	t.Errorf("D %d, n %d: no power of %v leads from %v to %v", d, n, right, s, own[0])
}

// P1.10
func TestThereAreSolutionsIfThereAreClasses(t *testing.T) {
	for _, d := range allD() {
		for _, n := range allN() {
			firsts := mustClasses(t, d, n)
			if len(firsts) == 0 && len(mustSolve(t, d, n, 5000)) > 0 {
				t.Errorf("D %d, n %d: solutions, but no class", d, n)
			}
			for _, s := range firsts {
				if s[1] < 0 || s[0]*s[0]-d*s[1]*s[1] != n {
					t.Errorf("Classes(%d, %d): %v is no solution", d, n, s)
				}
				if s[1] <= 5000 && !slices.Contains(mustSolve(t, d, n, s[1]), withoutSigns(s)) {
					t.Errorf("Solve(%d, %d, %d) has not %v", d, n, s[1], s)
				}
			}
			if m, e := pell.Obstruct(d, n); e == api.OK && len(firsts) > 0 {
				t.Errorf("D %d, n %d: obstructed by %d, but %v", d, n, m, firsts)
			}
		}
	}
}

// P1.11
func TestProductsAreSolutions(t *testing.T) {
	const most = 5000
	count := 0
	for _, d := range allD() {
		for m := -10; m <= 10; m++ {
			for n := -10; n <= 10; n++ {
				if m == 0 || n == 0 {
					continue
				}
				all := mustSolve(t, d, m*n, most)
				for _, a := range mustSolve(t, d, m, 60) {
					for _, b := range mustSolve(t, d, n, 20) {
						s := withoutSigns(product(d, a, b))
						if s[1] > most {
							continue
						}
						count++
						if !slices.Contains(all, s) {
							t.Errorf("Solve(%d, %d, %d) has not %v", d, m*n, most, s)
						}
					}
				}
			}
		}
	}
	if count < 5000 {
		t.Errorf("only %d products were looked at", count)
	}
}

// P1.11
func TestAClassMayBeItsOwnMirror(t *testing.T) {
	mirrored, others := 0, 0
	for _, d := range allD() {
		for _, n := range allN() {
			for _, s := range mustClasses(t, d, n) {
				x, y := s[0], s[1]
				want := 2*x*y%n == 0 && (x*x+d*y*y)%n == 0
				if mustSame(t, d, n, s, [2]int{x, -y}) != want {
					t.Errorf("D %d, n %d: %v and its mirror: not %t", d, n, s, want)
				}
				if want {
					mirrored++
				} else {
					others++
				}
			}
		}
	}
	if mirrored < 100 || others < 100 {
		t.Errorf("only %d and %d classes were looked at", mirrored, others)
	}
}
