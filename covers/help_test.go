package covers_test

import (
	"math/big"
	"math/rand/v2"
	"slices"
	"sync"
	"testing"

	"gherkin/api"
	"gherkin/covers"
)

// Well-known covering systems: erdos covers some numbers twice, exact and uneven
// none.
var (
	erdos  = [][2]int{{0, 2}, {0, 3}, {1, 4}, {5, 6}, {7, 12}}
	exact  = [][2]int{{0, 2}, {1, 4}, {3, 4}}
	uneven = [][2]int{{0, 3}, {1, 6}, {4, 6}, {2, 12}, {8, 12}, {11, 12}, {5, 12}}
)

// sierpinski has numbers k and primes such that one of these always divides
// k 2^n + 1.
var sierpinski = []struct {
	k      int
	primes []int
}{
	{78557, []int{3, 5, 7, 13, 19, 37, 73}},
	{271129, []int{3, 5, 7, 13, 17, 241}},
	{271577, []int{3, 5, 7, 13, 17, 241}},
	{322523, []int{3, 5, 7, 13, 37, 73, 109}},
	{327739, []int{3, 5, 7, 13, 17, 97, 257}},
	{482719, []int{3, 5, 7, 13, 17, 241}},
}

// multiple returns the least common multiple, by its definition.
func multiple(moduli []int) int {
	greatest := slices.Max(moduli)
	for n := greatest; ; n += greatest {
		if !slices.ContainsFunc(moduli, func(m int) bool { return n%m != 0 }) {
			return n
		}
	}
}

func moduliOf(l [][2]int) []int {
	var m []int
	for _, pair := range l {
		m = append(m, pair[1])
	}
	return m
}

func wholeOf(l [][2]int) int { return multiple(moduliOf(l)) }

// marks has for each of the numbers from 0 to days - 1 how many pairs cover it:
// each pair marks those that it comes to in steps of its modulus.
func marks(l [][2]int, days int) []int {
	times := make([]int, days)
	for _, pair := range l {
		for n := pair[0]; n < days; n += pair[1] {
			times[n]++
		}
	}
	return times
}

// covered returns the number of marks that are not 0.
func covered(times []int) int {
	count := 0
	for _, n := range times {
		if n > 0 {
			count++
		}
	}
	return count
}

// atMost returns all lists of length numbers from 1 to most.
func atMost(length, most int) [][]int {
	var all []int
	for n := 1; n <= most; n++ {
		all = append(all, n)
	}
	return listsOf(length, all)
}

// listsOf returns all lists of length of the numbers.
func listsOf(length int, numbers []int) [][]int {
	list := [][]int{nil}
	for range length {
		var next [][]int
		for _, l := range list {
			for _, n := range numbers {
				next = append(next, append(slices.Clone(l), n))
			}
		}
		list = next
	}
	return list
}

// withModuli returns all systems with the moduli m, compared by their residues
// from the front.
func withModuli(m []int) [][][2]int {
	list := [][][2]int{nil}
	for _, modulus := range m {
		var next [][][2]int
		for _, l := range list {
			for a := range modulus {
				next = append(next, append(slices.Clone(l), [2]int{a, modulus}))
			}
		}
		list = next
	}
	return list
}

// smallSystems returns all systems with up to three pairs and moduli up to 5.
func smallSystems() [][][2]int {
	var list [][][2]int
	for length := 1; length <= 3; length++ {
		for _, m := range atMost(length, 5) {
			list = append(list, withModuli(m)...)
		}
	}
	return list
}

// divisors returns those of n that are at most 60, but not 1.
func divisors(n int) []int {
	var list []int
	for m := 2; m <= 60; m++ {
		if n%m == 0 {
			list = append(list, m)
		}
	}
	return list
}

// someSystems returns systems with up to 10 pairs and wholes of all sizes. The
// residues are random ones, or each pair covers the least number that is left.
func someSystems() [][][2]int {
	random := rand.New(rand.NewPCG(4, 1))
	var list [][][2]int
	for _, whole := range []int{6, 12, 24, 48, 60, 36, 120, 180, 720, 840, 2520, 5040, 10080, 9240, 9900, 53, 59 * 60} {
		moduli := divisors(whole)
		for length := 1; length <= 10; length++ {
			for kind := range 4 {
				var l [][2]int
				for range length {
					m := moduli[random.IntN(len(moduli))]
					a := random.IntN(m)
					if left := slices.Index(marks(l, whole), 0); kind > 0 && left >= 0 {
						a = left % m
					}
					l = append(l, [2]int{a, m})
				}
				list = append(list, l)
			}
		}
	}
	return list
}

// systems returns systems of all kinds.
var systems = sync.OnceValue(func() [][][2]int {
	return slices.Concat(namedSystems(), smallSystems(), someSystems(), exactSystems(), severalMinimal())
})

// namedSystems returns systems at the ends of what is allowed.
func namedSystems() [][][2]int {
	return [][][2]int{
		erdos, exact, uneven, {{0, 1}}, {{0, 1}, {0, 1}}, {{0, 60}}, {{59, 60}},
		slices.Repeat([][2]int{{59, 60}}, 10), slices.Repeat([][2]int{{0, 1}}, 10),
		{{31, 32}, {8, 9}, {4, 5}, {6, 7}}, {{0, 32}, {0, 45}, {0, 56}, {0, 60}},
		// 31 is left, or the last number.
		{{0, 2}, {1, 4}, {3, 8}, {7, 16}, {15, 32}},
		{{0, 2}, {1, 4}, {3, 8}, {7, 16}, {15, 48}, {31, 48}},
	}
}

// severalMinimal returns systems in which pairs are needless for different
// reasons: one in another one, one in two others together, two of the same.
func severalMinimal() [][][2]int {
	return [][][2]int{
		{{0, 2}, {0, 4}}, {{0, 4}, {0, 2}}, {{0, 2}, {0, 2}}, {{0, 4}, {2, 4}, {0, 2}}, {{0, 2}, {1, 2}, {0, 3}},
		{{0, 3}, {0, 3}, {1, 3}, {2, 3}}, {{0, 2}, {1, 2}, {0, 2}}, {{0, 1}, {0, 1}}, {{0, 1}, {3, 7}},
		{{0, 2}, {0, 3}, {1, 4}, {5, 6}, {7, 12}, {11, 12}}, {{0, 2}, {0, 3}, {1, 6}, {5, 6}, {3, 6}},
	}
}

// parted returns l with the pair i replaced by r pairs, as Refine has it.
func parted(l [][2]int, i, r int) [][2]int {
	var result [][2]int
	for j, pair := range l {
		if j != i {
			result = append(result, pair)
			continue
		}
		for a := pair[0]; a < r*pair[1]; a += pair[1] {
			result = append(result, [2]int{a, r * pair[1]})
		}
	}
	return result
}

// allowed reports whether l is a system.
func allowed(l [][2]int) bool {
	if len(l) < 1 || len(l) > 10 {
		return false
	}
	for _, pair := range l {
		if pair[1] < 1 || pair[1] > 60 || pair[0] < 0 || pair[0] >= pair[1] {
			return false
		}
	}
	return wholeOf(l) <= 10080
}

// exactSystems returns exact systems: pairs are parted again and again, and the
// pairs are put into another order.
func exactSystems() [][][2]int {
	random := rand.New(rand.NewPCG(4, 2))
	var list [][][2]int
	for range 60 {
		l := [][2]int{{0, 1}}
		for {
			list = append(list, l)
			next := parted(l, random.IntN(len(l)), 2+random.IntN(4))
			if !allowed(next) {
				break
			}
			random.Shuffle(len(next), func(i, j int) { next[i], next[j] = next[j], next[i] })
			l = next
		}
	}
	return list
}

// moved returns l with a number added to all residues, modulo the moduli.
func moved(l [][2]int, by int) [][2]int {
	var list [][2]int
	for _, pair := range l {
		list = append(list, [2]int{(pair[0] + by) % pair[1], pair[1]})
	}
	return list
}

// without returns l without the pair i.
func without(l [][2]int, i int) [][2]int { return slices.Delete(slices.Clone(l), i, i+1) }

// coverable reports whether pairs with the moduli can cover all numbers with
// times 0: one of them covers the first of these.
func coverable(times []int, moduli []int) bool {
	left := slices.Index(times, 0)
	if left < 0 {
		return true
	}
	for i, m := range moduli {
		more := slices.Clone(times)
		for n := left % m; n < len(more); n += m {
			more[n]++
		}
		if coverable(more, slices.Delete(slices.Clone(moduli), i, i+1)) {
			return true
		}
	}
	return false
}

// placeable reports whether pairs with the moduli can be found with which no
// number is covered twice, where each is covered its times without them.
func placeable(times []int, moduli []int) bool {
	if slices.Max(times) > 1 || len(moduli) == 0 {
		return slices.Max(times) <= 1
	}
	m := moduli[0]
	for a := range m {
		more := slices.Clone(times)
		for n := a; n < len(more); n += m {
			more[n]++
		}
		if placeable(more, moduli[1:]) {
			return true
		}
	}
	return false
}

// firstWith returns the first system with the moduli m: each residue is the
// least one with which it can still be completed. It is nil if there is none.
func firstWith(m []int, complete func(times, moduli []int) bool) [][2]int {
	var l [][2]int
	days := multiple(m)
	for i, modulus := range m {
		a := 0
		for a < modulus && !complete(marks(append(slices.Clone(l), [2]int{a, modulus}), days), m[i+1:]) {
			a++
		}
		if a == modulus {
			return nil
		}
		l = append(l, [2]int{a, modulus})
	}
	return l
}

// someModuli returns lists of 5 to 7 numbers from 1 to 12, with systems that
// cover and without, in different orders.
func someModuli() [][]int {
	random := rand.New(rand.NewPCG(4, 3))
	list := [][]int{
		{2, 3, 4, 6, 12}, {12, 6, 4, 3, 2}, {2, 4, 8, 8}, {2, 3, 4, 6, 8, 12}, {12, 8, 6, 4, 3, 2}, {3, 4, 5, 6, 8, 10, 12},
		{3, 3, 3}, {3, 6, 6, 6, 12, 12}, {12, 12, 6, 6, 6, 3}, {2, 3, 6}, {3, 2, 6}, {4, 4, 4, 4}, {4, 6, 6, 6, 12, 12, 4},
		{5, 5, 5, 5, 10, 10}, {7, 7, 7, 7, 7, 7, 7}, {2, 6, 6, 6}, {2, 10, 10, 10, 10, 10}, {2, 11, 11, 11, 11}, {8, 3, 5, 7, 11}, {2, 9, 5, 7, 11},
	}
	for _, numbers := range [][]int{{2, 3, 4, 6, 12}, {2, 4, 8}, {3, 4, 6, 8, 12}, {2, 3, 5, 6, 10}, {3, 6, 9}, {2, 3, 4, 5, 6, 7, 8}, {3, 4, 6}, {4, 6, 8, 12}, {1, 2, 3, 12}} {
		for length := 5; length <= 7; length++ {
			for range 6 {
				var m []int
				for range length {
					m = append(m, numbers[random.IntN(len(numbers))])
				}
				list = append(list, m)
			}
		}
	}
	return list
}

// oddPrimes returns those below 300.
func oddPrimes() []int {
	var list []int
	for p := int64(3); p < 300; p += 2 {
		if big.NewInt(p).ProbablyPrime(20) {
			list = append(list, int(p))
		}
	}
	return list
}

// number returns k 2^n + 1.
func number(k, n int) *big.Int {
	power := new(big.Int).Lsh(big.NewInt(int64(k)), uint(n))
	return power.Add(power, big.NewInt(1))
}

// divides reports whether p divides k 2^n + 1.
func divides(p, k, n int) bool {
	return new(big.Int).Mod(number(k, n), big.NewInt(int64(p))).Sign() == 0
}

// orders has for each odd prime below 300 the least e from 1 on with 2^e - 1
// divisible by it.
var orders = sync.OnceValue(func() map[int]int {
	table := map[int]int{}
	for _, p := range oddPrimes() {
		e := 1
		for divides(p, 1, e) || new(big.Int).Mod(number(1, e), big.NewInt(int64(p))).Int64() != 2 {
			e++
		}
		table[p] = e
	}
	return table
})

// dayOf returns the day of p, by its definition: with n from 1 to p all
// remainders of powers of 2 have come.
func dayOf(k, p int) (day [2]int, ok bool) {
	if k%p == 0 {
		return day, false
	}
	for n := 1; n <= p; n++ {
		if divides(p, k, n) {
			return [2]int{n % orders()[p], orders()[p]}, true
		}
	}
	return day, false
}

// daysOf returns the days of those primes that have one, or ErrSize.
func daysOf(k int, primes []int) ([][2]int, api.Errno) {
	var l [][2]int
	for _, p := range primes {
		if day, ok := dayOf(k, p); ok {
			l = append(l, day)
		}
	}
	whole := big.NewInt(1)
	for _, day := range l {
		m := big.NewInt(int64(day[1]))
		common := new(big.Int).GCD(nil, nil, whole, m)
		whole.Mul(whole, m.Div(m, common))
		if day[1] > 60 {
			return nil, api.ErrSize
		}
	}
	if whole.Cmp(big.NewInt(10080)) > 0 {
		return nil, api.ErrSize
	}
	return l, api.OK
}

// numbersWithPrimes returns many k with lists of primes.
func numbersWithPrimes() []withPrimes {
	random := rand.New(rand.NewPCG(4, 4))
	var short []int // those with small e, so that the whole is seldom too large
	for _, p := range oddPrimes() {
		if 5040%orders()[p] == 0 && orders()[p] <= 60 {
			short = append(short, p)
		}
	}
	var list []withPrimes
	for _, s := range sierpinski {
		list = append(list, withPrimes{s.k, s.primes}, withPrimes{s.k, s.primes[1:]}, withPrimes{s.k + 2, s.primes})
	}
	for i := range 1500 {
		primes := short
		if i%3 == 0 {
			primes = oddPrimes()
		}
		primes = slices.Clone(primes)
		random.Shuffle(len(primes), func(i, j int) { primes[i], primes[j] = primes[j], primes[i] })
		list = append(list, withPrimes{1 + 2*random.IntN(500_000), primes[:1+i%8]})
	}
	return list
}

type withPrimes struct {
	k      int
	primes []int
}

func mustShare(t *testing.T, l [][2]int) api.Frac {
	t.Helper()
	share, e := covers.Share(l)
	if e != api.OK {
		t.Fatalf("Share(%v): error %d", l, e)
	}
	return share
}

// covering reports whether Left finds that l covers.
func covering(t *testing.T, l [][2]int) bool { return none(t, "Left", covers.Left, l) }

// disjoint reports whether Twice finds that no number is covered twice.
func disjoint(t *testing.T, l [][2]int) bool { return none(t, "Twice", covers.Twice, l) }

func none(t *testing.T, name string, f func([][2]int) (int, api.Errno), l [][2]int) bool {
	t.Helper()
	n, e := f(l)
	if e != api.OK && e != api.ErrNone || e == api.ErrNone && n != 0 {
		t.Fatalf("%s(%v): %d, error %d", name, l, n, e)
	}
	return e == api.ErrNone
}
