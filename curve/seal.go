package curve

// sealer checks seals that are made with the multiples of g.
type sealer struct {
	Curve
	g Point
	n int // the order of g, a prime
}

// owner is a sealer that has a secret: it can make seals too.
type owner struct {
	sealer
	secret int
}

// sealerOf returns the sealer; false if c or g is not valid, or the order of g is
// no prime at least 3.
func sealerOf(c Curve, g Point) (sealer, bool) {
	if !c.valid(g) {
		return sealer{}, false
	}
	s := sealer{c, g, c.order(g)}
	return s, s.n >= 3 && isPrime(s.n)
}

// seal returns the seal of a text; false if it would have a 0.
func (o owner) seal(once, text int) ([2]int, bool) {
	x := o.times(o.g, once).X % o.n
	s := quotient(text+x*o.secret, once, o.n)
	return [2]int{x, s}, x != 0 && s != 0
}

// accepts reports whether the seal is right for the key and the text.
func (s sealer) accepts(key Point, text int, seal [2]int) bool {
	x, by := seal[0], seal[1]
	if !isUnit(x, s.n) || !isUnit(by, s.n) {
		return false
	}
	q := s.sum(s.times(s.g, quotient(text, by, s.n)), s.times(key, quotient(x, by, s.n)))
	return q != far && q.X%s.n == x
}
