package curve

// scaled returns the curve with A w^2 and B w^3.
func (c Curve) scaled(w int) Curve {
	return Curve{P: c.P, A: c.A * w * w % c.P, B: c.B * w * w * w % c.P}
}

// alike returns the least number by which c and d are alike; false if there is
// none.
func (c Curve) alike(d Curve) (int, bool) {
	for v := 1; v < c.P; v++ {
		if c.scaled(v*v) == d {
			return v, true
		}
	}
	return 0, false
}

// counts returns each number of points that a curve over p has, and how many have
// it, rising.
func counts(p int) [][2]int {
	// Each of the P numbers X has at most two points.
	curves := make([]int, 2*p+2)
	for a := range p {
		for b := range p {
			if c := (Curve{P: p, A: a, B: b}); c.valid() {
				curves[len(c.points())]++
			}
		}
	}
	var list [][2]int
	for n, many := range curves {
		if many > 0 {
			list = append(list, [2]int{n, many})
		}
	}
	return list
}
