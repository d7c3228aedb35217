package numeral

// fraction is a continued fraction: the numbers q of 1/(q[0] + 1/(q[1] + ..)).
type fraction []int

func (q fraction) valid() bool {
	if len(q) < 1 || len(q) > maxTerms {
		return false
	}
	for _, term := range q {
		if term < 1 || term > maxTerm {
			return false
		}
	}
	return true
}

// denominators returns D(0) to D(len(q)).
func (q fraction) denominators() []int {
	list := []int{1}
	before := 0
	for k, term := range q {
		list = append(list, term*list[k]+before)
		before = list[k]
	}
	return list
}

// end returns D(len(q)), the first number that has no numeral along q.
func (q fraction) end() int { return q.denominators()[len(q)] }

// validNumeral reports whether c is a numeral along q.
func (q fraction) validNumeral(c []int) bool {
	if len(c) != len(q) {
		return false
	}
	for k, digit := range c {
		if digit < 0 || digit > q[k] {
			return false
		}
		if digit == q[k] && (k == 0 || c[k-1] != 0) {
			return false
		}
	}
	return true
}

// digits returns the numeral of n along q. What is left of n for the digit k is
// below D(k + 1); where the digit is q[k], what is left after it is below
// D(k - 1), so the one before it is 0.
func (q fraction) digits(n int) []int {
	d := q.denominators()
	c := make([]int, len(q))
	for k := len(q) - 1; k >= 0; k-- {
		c[k] = n / d[k]
		n %= d[k]
	}
	return c
}

// number returns the number of a numeral along q.
func (q fraction) number(c []int) int {
	n := 0
	d := q.denominators()
	for k, digit := range c {
		n += digit * d[k]
	}
	return n
}
