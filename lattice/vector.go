package lattice

// within reports whether v is n numbers from -most to most.
func within(v []int, n, most int) bool {
	if len(v) != n {
		return false
	}
	for _, x := range v {
		if x < -most || x > most {
			return false
		}
	}
	return true
}

func origin(n int) []int { return make([]int, n) }

// inner returns the inner product.
func inner(v, w []int) int {
	sum := 0
	for i, x := range v {
		sum += x * w[i]
	}
	return sum
}

func norm(v []int) int { return inner(v, v) }

// plus returns v and so many times w.
func plus(v []int, times int, w []int) []int {
	sum := make([]int, len(v))
	for i, x := range v {
		sum[i] = x + times*w[i]
	}
	return sum
}
