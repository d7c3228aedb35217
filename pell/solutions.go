package pell

import "iter"

func validN(n int) bool {
	return n != 0 && within(n, maxN)
}

func within(n, most int) bool {
	return -most <= n && n <= most
}

// solves reports whether s is a solution that Same may be given. The limits
// come first: the squares of greater numbers might wrap around.
func solves(d, n int, s [2]int) bool {
	x, y := s[0], s[1]
	return within(x, maxX) && within(y, maxY) && x*x-d*y*y == n
}

// solutions yields x and y of all solutions with x at least 0 and y from 0 to
// most, rising by y.
func solutions(d, n, most int) iter.Seq2[int, int] {
	return func(yield func(int, int) bool) {
		for y := range most + 1 {
			square := d*y*y + n
			if square < 0 {
				continue
			}
			x := root(square)
			if x*x == square && !yield(x, y) {
				return
			}
		}
	}
}

// highest returns a number which the least y of no class exceeds.
//
// A class has with s = x + y r (r the square root of d) also s times all
// powers of the right unit e = t + u r, so it has one with s^2 from |n|/e to
// |n| e. With c = x - y r, s c = n, the square of 2 y r = s - c is then at most
// |n| (e + 2 + 1/e) = |n| (2 t + 2).
func highest(d, n int) int {
	t, _ := right(d)
	return root(max(n, -n) * (t + 1) / (2 * d))
}

// oneClass reports whether two solutions are of one class.
func oneClass(d, n int, a, b [2]int) bool {
	x, y, u, v := a[0], a[1], b[0], b[1]
	return (x*u-d*y*v)%n == 0 && (x*v-y*u)%n == 0
}

// squares returns all squares modulo m.
func squares(m int) map[int]bool {
	found := map[int]bool{}
	for x := range m {
		found[x*x%m] = true
	}
	return found
}

// solvable reports whether there is a solution modulo m.
func solvable(d, n, m int) bool {
	found := squares(m)
	for y := range m {
		// n may be below 0, and a rest must not be: adding a multiple of m helps.
		if found[(d*y*y+n+maxN*m)%m] {
			return true
		}
	}
	return false
}
