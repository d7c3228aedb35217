package lift

// validFraction reports whether a / b has p-adic digits, and is none too great.
func validFraction(a, b, p int) bool {
	return validPrime(p) && a >= -maxNumerator && a <= maxNumerator && b >= 1 && b <= maxDenominator && b%p != 0
}

// split returns the first digit of a / b, and the rest: the numerator, over b,
// of the fraction that has the digits after it.
func split(a, b, p int) (digit, rest int) {
	digit = residue(a*inverse(b, p), p)
	return digit, (a - digit*b) / p
}

// digits returns the first n digits of a / b.
func digits(a, b, p, n int) []int {
	list := make([]int, n)
	for i := range n {
		digit, rest := split(a, b, p)
		list[i] = digit
		a = rest
	}
	return list
}

// again returns the index from which on the digits of a / b come again, and
// after how many of them, both the least. Digits are the same if and only if
// the rests are, and no rest is further from 0 than both a and b.
func again(a, b, p int) (from, after int) {
	seen := map[int]int{}
	for i := 0; ; i++ {
		first, ok := seen[a]
		if ok {
			return first, i - first
		}
		seen[a] = i
		_, a = split(a, b, p)
	}
}
