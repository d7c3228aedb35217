package curve

// far is the point that is no pair of coordinates: added to a point it gives that
// point.
var far = Point{Far: true}

// valid reports whether c is a Curve as the chapter has it, and all of the points
// are points of it.
func (c Curve) valid(points ...Point) bool {
	if !isModulus(c.P) || !isRest(c.A, c.P) || !isRest(c.B, c.P) || (4*c.A*c.A*c.A+27*c.B*c.B)%c.P == 0 {
		return false
	}
	for _, q := range points {
		if !c.has(q) {
			return false
		}
	}
	return true
}

// has reports whether q is a point of c.
func (c Curve) has(q Point) bool {
	if q.Far {
		return q == far
	}
	return isRest(q.X, c.P) && isRest(q.Y, c.P) && (q.X*q.X*q.X+c.A*q.X+c.B-q.Y*q.Y)%c.P == 0
}

// points returns all of them, in order.
func (c Curve) points() []Point {
	var list []Point
	for x := range c.P {
		for y := range c.P {
			if q := (Point{X: x, Y: y}); c.has(q) {
				list = append(list, q)
			}
		}
	}
	return append(list, far)
}

// sum returns that of two points.
func (c Curve) sum(q, r Point) Point {
	switch {
	case q == far:
		return r
	case r == far:
		return q
	case r == c.turned(q):
		return far
	}
	s := c.slope(q, r)
	x := rest(s*s-q.X-r.X, c.P)
	return Point{X: x, Y: rest(s*(q.X-x)-q.Y, c.P)}
}

// turned returns what added to q, which is not the far point, gives the far one.
func (c Curve) turned(q Point) Point { return Point{X: q.X, Y: rest(-q.Y, c.P)} }

// slope returns that of the line through q and r, or of the tangent if they are the
// same. They do not give the far point, so that the line is not upright.
func (c Curve) slope(q, r Point) int {
	if q == r {
		return quotient(3*q.X*q.X+c.A, 2*q.Y, c.P)
	}
	return quotient(q.Y-r.Y, q.X-r.X, c.P)
}

// multiples returns 0 times q, once q, .., up to the last one before the far point
// comes again.
func (c Curve) multiples(q Point) []Point {
	list := []Point{far}
	for at := q; at != far; at = c.sum(at, q) {
		list = append(list, at)
	}
	return list
}
