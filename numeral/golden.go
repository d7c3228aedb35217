package numeral

import "gherkin/api"

func validNumber(n int) bool { return n >= 0 && n <= maxNumber }

// validNumeral reports whether l is a numeral.
func validNumeral(l []int) bool {
	highest := maxIndex
	for _, k := range l {
		if k < leastIndex || k > highest {
			return false
		}
		highest = k - 2
	}
	return true
}

// fibonacci returns the Fibonacci numbers, each one at its index.
func fibonacci() [maxIndex + 1]int {
	var f [maxIndex + 1]int
	f[2], f[3] = 1, 2
	for k := 4; k <= maxIndex; k++ {
		f[k] = f[k-1] + f[k-2]
	}
	return f
}

// encode returns the numeral of n. What is left after the greatest Fibonacci
// number is less than the one before it, so no two indices are neighbours.
func encode(n int) []int {
	f := fibonacci()
	var l []int
	for k := maxIndex; k >= leastIndex; k-- {
		if f[k] <= n {
			n -= f[k]
			l = append(l, k)
		}
	}
	return l
}

// total returns the sum of the Fibonacci numbers at the indices, which need not
// be a numeral and may be above maxIndex.
func total(indices []int) (int, api.Errno) {
	f := fibonacci()
	sum := 0
	for _, k := range indices {
		// All Fibonacci numbers from maxIndex on are too large alike.
		sum += f[min(k, maxIndex)]
		if sum > maxNumber {
			return 0, api.ErrSize
		}
	}
	return sum, api.OK
}

// moved returns the indices, each one raised by a number.
func moved(indices []int, by int) []int {
	list := make([]int, len(indices))
	for i, k := range indices {
		list[i] = k + by
	}
	return list
}

// shifted returns the sum of the Fibonacci numbers at the indices of n's
// numeral, each one raised by a number.
func shifted(n, by int) (int, api.Errno) { return total(moved(encode(n), by)) }

// last returns the last index of the numeral of n, n at least 1.
func last(n int) int {
	l := encode(n)
	return l[len(l)-1]
}

// letter returns the letter of the golden word at index n.
func letter(n int) byte {
	if n > 0 && last(n) == leastIndex {
		return '1'
	}
	return '0'
}
