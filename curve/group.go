package curve

import "slices"

// times returns k times q. Multiples come again after as many as the order, also
// before 0.
func (c Curve) times(q Point, k int) Point {
	list := c.multiples(q)
	return list[rest(k, len(list))]
}

func (c Curve) order(q Point) int { return len(c.multiples(q)) }

// logarithm returns the least k from 0 on such that k times q is r; false if there
// is none.
func (c Curve) logarithm(q, r Point) (int, bool) {
	k := slices.Index(c.multiples(q), r)
	return max(k, 0), k >= 0
}

// torsion returns the points of which k times is the far one, in order.
func (c Curve) torsion(k int) []Point {
	var list []Point
	for _, q := range c.points() {
		if c.times(q, k) == far {
			list = append(list, q)
		}
	}
	return list
}

// shape returns it. All orders divide n, and there are points of the order n, so
// that n is the greatest order.
func (c Curve) shape() (m, n int) {
	points := c.points()
	for _, q := range points {
		n = max(n, c.order(q))
	}
	return len(points) / n, n
}

// basis returns the first points as in the shape. In a group like that of the
// points each one of the greatest order has another one to make a basis with, so
// that the loop ends for the first of them.
func (c Curve) basis() (Point, Point) {
	m, n := c.shape()
	for _, q := range c.ofOrder(n) {
		for _, r := range c.ofOrder(m) {
			if c.apart(q, r) {
				return q, r
			}
		}
	}
	return far, far
}

// ofOrder returns the points of the order k, in order.
func (c Curve) ofOrder(k int) []Point {
	var list []Point
	for _, q := range c.points() {
		if c.order(q) == k {
			list = append(list, q)
		}
	}
	return list
}

// apart reports whether the far point is the only multiple of both q and r. Then no
// two sums of a multiple of q and one of r are the same.
func (c Curve) apart(q, r Point) bool {
	list := c.multiples(q)
	for _, x := range c.multiples(r) {
		if x != far && slices.Contains(list, x) {
			return false
		}
	}
	return true
}
