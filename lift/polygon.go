package lift

import "gherkin/api"

// point stands for the coefficient of x^i that p divides so often.
type point struct{ i, order int }

// points returns those of all coefficients that are not 0, from left to right.
func (f polynomial) points(p int) []point {
	var list []point
	for i, c := range f {
		if c != 0 {
			list = append(list, point{i, order(c, p)})
		}
	}
	return list
}

// order returns how often p divides n, which is not 0.
func order(n, p int) int {
	count := 0
	for n%p == 0 {
		n /= p
		count++
	}
	return count
}

// boundary returns the lower boundary of the convex hull of points that go from
// left to right.
func boundary(points []point) []Side {
	var sides []Side
	for len(points) > 1 {
		end := 1
		for i := range points {
			// Of several points on one line the last one is the end, so that no
			// side is followed by one with the same slope.
			if i > end && points[0].sees(points[end], points[i]) {
				end = i
			}
		}
		sides = append(sides, points[0].side(points[end]))
		points = points[end:]
	}
	return sides
}

// sees reports whether c is on the line from a through b, or below it. c is right
// of b, which is right of a.
func (a point) sees(b, c point) bool {
	return (c.order-a.order)*(b.i-a.i) <= (b.order-a.order)*(c.i-a.i)
}

// side returns that from a to b.
func (a point) side(b point) Side {
	return Side{a.i, b.i, fraction(b.order-a.order, b.i-a.i)}
}

// fraction returns num / den in lowest terms; den is at least 1.
func fraction(num, den int) api.Frac {
	g := gcd(max(num, -num), den)
	return api.Frac{Num: num / g, Den: den / g}
}

// gcd returns the greatest common factor of numbers that are at least 0, and not
// both 0.
func gcd(a, b int) int {
	for b > 0 {
		a, b = b, a%b
	}
	return a
}
