package covers

import (
	"slices"

	"gherkin/api"
)

func validFactor(k int) bool { return k >= 1 && k <= maxFactor && k%2 == 1 }

// validPrimes reports whether the numbers are different odd primes, not too
// many and none too great.
func validPrimes(primes []int) bool {
	if len(primes) < 1 || len(primes) > maxPrimes {
		return false
	}
	for i, p := range primes {
		if p < 3 || p >= endOfPrimes || !isPrime(p) || slices.Contains(primes[:i], p) {
			return false
		}
	}
	return true
}

func isPrime(p int) bool {
	for d := 2; d*d <= p; d++ {
		if p%d == 0 {
			return false
		}
	}
	return true
}

// dayOf returns the pair that covers the n for which k 2^n + 1 is divisible by
// p; false if there are none.
func dayOf(k, p int) (pair [2]int, ok bool) {
	n, e, power := 0, 0, 1
	// The powers of 2 are different until they come to 1 again, so that no more
	// than one n is found.
	for e == 0 || power != 1 {
		e++
		power = power * 2 % p
		if (k*power+1)%p == 0 {
			n, ok = e, true
		}
	}
	if !ok {
		return [2]int{}, false
	}
	return [2]int{n % e, e}, true
}

// daysOf returns the days of those primes that have one, which may be none.
func daysOf(k int, primes []int) (system, api.Errno) {
	var l system
	for _, p := range primes {
		pair, ok := dayOf(k, p)
		if !ok {
			continue
		}
		if pair[1] > maxModulus {
			return nil, api.ErrSize
		}
		l = append(l, pair)
	}
	if l.whole() > api.MaxWhole {
		return nil, api.ErrSize
	}
	return l, api.OK
}
