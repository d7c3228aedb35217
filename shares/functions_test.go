package shares_test

import (
	"math/big"
	"slices"
	"testing"

	"gherkin/api"
	"gherkin/shares"
)

// P5.1
func TestGreedyTakesTheGreatestUnitFraction(t *testing.T) {
	tooLarge := 0
	for _, s := range allShares() {
		want, ok := s.greedy()
		f := api.OK
		if !ok {
			f = api.ErrSize
			tooLarge++
		}
		if l, e := shares.Greedy(s.a, s.b); !slices.Equal(l, want) || e != f {
			t.Errorf("Greedy(%d, %d): %v, error %d, not %v, error %d", s.a, s.b, l, e, want, f)
		}
	}
	if tooLarge == 0 {
		t.Error("no denominator is above 10^12")
	}
}

// P5.1: nil stands for ErrSize.
func TestGreedyExamples(t *testing.T) {
	for _, c := range []struct {
		a, b int
		want []int
	}{
		{4, 5, []int{2, 4, 20}}, {1, 2, []int{2}}, {1, 60, []int{60}}, {30, 60, []int{2}}, {2, 3, []int{2, 6}}, {3, 4, []int{2, 4}}, {5, 6, []int{2, 3}},
		{59, 60, []int{2, 3, 7, 140}}, {4, 49, []int{13, 213, 67841, 9204734721}}, {54, 58, []int{2, 3, 11, 148, 28328, 1003066152}},
		{36, 37, []int{2, 3, 8, 69, 6808}}, {8, 11, []int{2, 5, 37, 4070}},
		// No denominator that is found is greater.
		{43, 53, []int{2, 4, 17, 401, 289041, 417723209364}},
		// The last of these would be 1218809328828, and that of the second one is
		// above 2^63.
		{19, 49, nil}, {44, 53, nil}, {36, 41, nil}, {5, 31, nil}, {7, 43, nil}, {35, 47, nil}, {15, 53, nil}, {35, 53, nil}, {17, 59, nil},
	} {
		l, e := shares.Greedy(c.a, c.b)
		if c.want == nil && (len(l) > 0 || e != api.ErrSize) || c.want != nil && (!slices.Equal(l, c.want) || e != api.OK) {
			t.Errorf("Greedy(%d, %d): %v, error %d, not %v", c.a, c.b, l, e, c.want)
		}
	}
}

// P5.1
func TestEngelMultipliesWhatIsLeft(t *testing.T) {
	for _, s := range allShares() {
		if u, want := mustEngel(t, s), s.engel(); !slices.Equal(u, want) {
			t.Errorf("Engel(%d, %d): %v, not %v", s.a, s.b, u, want)
		}
	}
	for s, want := range map[share][]int{
		{4, 5}: {2, 2, 5}, {1, 2}: {2}, {30, 60}: {2}, {1, 60}: {60}, {3, 4}: {2, 2}, {59, 60}: {2, 2, 2, 2, 2, 3, 3, 5}, {3, 7}: {3, 4, 7}, {5, 31}: {7, 8, 31},
	} {
		if u := mustEngel(t, s); !slices.Equal(u, want) {
			t.Errorf("Engel(%d, %d): %v, not %v", s.a, s.b, u, want)
		}
	}
}

// shortAs checks Short of all shares, with up to so many terms, against the
// firsts of the sums with the fewest denominators.
func shortAs(t *testing.T, firsts map[share][]int, terms, most int) {
	t.Helper()
	for _, s := range allShares() {
		for count := 1; count <= terms; count++ {
			want := firsts[s.lowest()]
			if len(want) > count {
				want = nil
			}
			l, e := shares.Short(s.a, s.b, count, most)
			listOrNone(t, want, l, e, "Short", s.a, s.b, count, most)
		}
	}
}

// P5.2: all lists are tried.
func TestShortIsTheFirstOfTheShortest(t *testing.T) {
	for most := 2; most <= 40; most++ {
		shortAs(t, firstSums(4, most), 4, most)
	}
	for _, most := range []int{59, 60, 61, 84} {
		shortAs(t, firstSums(4, most), 4, most)
	}
	for _, most := range []int{120, 199, 299, 300} {
		shortAs(t, firstSums(3, most), 3, most)
	}
}

// P5.2
func TestShortWithFourOfAnySize(t *testing.T) {
	for _, most := range []int{150, 299, 300} {
		pairs := pairSums(most)
		found := 0
		for i, s := range allShares() {
			if _, e := shares.Short(s.a, s.b, 3, most); e == api.OK || i%3 > 0 {
				continue
			}
			want := s.firstOfFour(most, pairs)
			if want != nil {
				found++
			}
			l, e := shares.Short(s.a, s.b, 4, most)
			listOrNone(t, want, l, e, "Short", s.a, s.b, 4, most)
		}
		if found < 50 {
			t.Errorf("up to %d there are only %d sums of four", most, found)
		}
	}
}

// P5.2: nil stands for ErrNone.
func TestShortExamples(t *testing.T) {
	for _, c := range []struct {
		a, b, terms, most int
		want              []int
	}{
		{4, 5, 3, 100, []int{2, 4, 20}}, {5, 6, 2, 10, []int{2, 3}}, {4, 5, 2, 300, nil}, {4, 5, 3, 20, []int{2, 4, 20}}, {4, 5, 3, 19, []int{2, 5, 10}}, {4, 5, 3, 9, nil},
		{1, 2, 1, 2, []int{2}}, {1, 2, 4, 300, []int{2}}, {30, 60, 1, 2, []int{2}}, {1, 60, 1, 60, []int{60}}, {1, 60, 1, 59, nil}, {1, 60, 4, 59, nil},
		{2, 3, 1, 300, nil}, {2, 3, 2, 6, []int{2, 6}}, {2, 3, 4, 5, nil}, {1, 3, 4, 2, nil},
		// One term is shorter than the others that come before it.
		{1, 4, 3, 300, []int{4}}, {1, 4, 3, 4, []int{4}},
	} {
		l, e := shares.Short(c.a, c.b, c.terms, c.most)
		listOrNone(t, c.want, l, e, "Short", c.a, c.b, c.terms, c.most)
	}
}

// shareOf returns the sum of the unit fractions of l as a share; false if it is
// none.
func shareOf(l []int) (share, bool) {
	sum := total(l)
	if sum.Sign() == 0 || sum.Cmp(big.NewRat(1, 1)) >= 0 || sum.Denom().Cmp(big.NewInt(60)) > 0 {
		return share{}, false
	}
	return share{int(sum.Num().Int64()), int(sum.Denom().Int64())}, true
}

// P5.3: all lists of different divisors, with any number of them.
func TestCheckAcceptsSumsOfUpToEight(t *testing.T) {
	eights, nines := 0, 0
	for _, l := range slices.Concat(subsets(divisors(120)[1:]), subsets(divisors(84)[1:]), subsets(divisors(90)[1:]), subsets([]int{2, 3, 4, 5, 6, 7, 8, 9})) {
		s, ok := shareOf(l)
		if !ok {
			s = share{1, 2}
		}
		for _, other := range []share{s, {s.a + 1, s.b}, {s.a, s.b - 1}, {s.a, s.b + 1}, {2 * s.a, 2 * s.b}, {1, 60}} {
			if other.a >= other.b || other.b > 60 {
				continue
			}
			if want := other.checked(l); accepts(t, other, l) != want {
				t.Errorf("Check(%d, %d, %v): %t", other.a, other.b, l, !want)
			}
		}
		if ok && len(l) == 8 {
			eights++
		}
		if ok && len(l) == 9 {
			nines++
		}
	}
	if eights < 100 || nines < 100 {
		t.Errorf("only %d sums with 8 denominators, and %d with 9", eights, nines)
	}
}

// P5.3
func TestCheckExamples(t *testing.T) {
	half := share{1, 2}
	for _, c := range []struct {
		s    share
		l    []int
		want bool
	}{
		{share{4, 5}, []int{2, 4, 20}, true}, {share{4, 5}, []int{2, 4, 21}, false}, {share{48, 60}, []int{2, 4, 20}, true}, {half, nil, false}, {half, []int{}, false},
		{half, []int{2}, true}, {half, []int{3, 6}, true}, {half, []int{6, 3}, false}, {half, []int{4, 4}, false}, {half, []int{4, 6, 12}, true}, {half, []int{4, 12, 6}, false},
		// Sums of 1 and -1 with others, and of what is no unit fraction.
		{half, []int{-2, 1}, false}, {half, []int{-1, 1, 2}, false}, {half, []int{-6, 2, 6}, false}, {half, []int{0, 2}, false}, {half, []int{0}, false}, {half, []int{1}, false}, {half, []int{-2}, false}, {half, []int{1, 2}, false}, {half, []int{2, 3, 6}, false}, {half, []int{2, 2}, false},
		{half, []int{2, 0}, false}, {half, []int{2, -1}, false},
		// The last denominator is 10^6.
		{share{1, 50}, []int{64, 250, 3125, 20000, 250000, 1000000}, true}, {share{1, 16}, []int{20, 100, 800, 1250, 3125, 8000, 250000, 1000000}, true},
		// It is greater.
		{share{1, 54}, []int{81, 196, 1029, 10206, 1000188}, false}, {share{15, 49}, []int{4, 21, 189, 486, 882, 55566, 500094, 1000188}, false}, {share{4, 49}, []int{13, 213, 67841, 9204734721}, false},
	} {
		if accepts(t, c.s, c.l) != c.want || c.s.checked(c.l) != c.want {
			t.Errorf("Check(%d, %d, %v): not %t", c.s.a, c.s.b, c.l, c.want)
		}
	}
}

// P5.3: what is almost a sum, or is one with few bits.
func TestCheckRoundsNothing(t *testing.T) {
	// The sum is 1/2 up to 3 10^-18.
	if l := []int{5, 6, 9, 47, 1060, 896759, 896761}; accepts(t, share{1, 2}, l) {
		t.Errorf("Check(1, 2, %v)", l)
	}
	powers := []int{4096, 8192, 16384, 32768, 65536, 131072, 262144, 524288}
	for _, s := range allShares() {
		if accepts(t, s, powers) {
			t.Errorf("Check(%d, %d, %v)", s.a, s.b, powers)
		}
	}
	for _, l := range [][]int{
		{2 + 1<<32}, {2 + 1<<62}, {3, 6 + 1<<32}, {3, 6 + 1<<62}, {1<<63 - 1}, {-1 << 63}, {3, -1 << 63}, {-1 << 63, 2}, {-1 << 63, -1<<63 + 2}, {2, 1<<63 - 1}, {2, 1 << 62}, {1 << 32, 1 << 33}, {1<<31 - 1, 1 << 31},
		slices.Repeat([]int{2}, 1000), slices.Repeat([]int{16}, 8), {999_999_999_999, 1_000_000_000_000},
	} {
		if accepts(t, share{1, 2}, l) {
			t.Errorf("Check(1, 2, %v)", l)
		}
	}
}

// P5.3: lists that are sums but for one number.
func TestCheckAcceptsNoOtherList(t *testing.T) {
	for _, s := range allShares() {
		l, e := shares.Short(s.a, s.b, 4, 300)
		if e != api.OK {
			continue
		}
		for i := range l {
			for _, by := range []int{-1, 1, 2, -l[i], -2 * l[i], 1_000_000, 1 << 32, 1 << 62} {
				other := slices.Clone(l)
				other[i] += by
				if accepts(t, s, other) != s.checked(other) {
					t.Errorf("Check(%d, %d, %v)", s.a, s.b, other)
				}
			}
		}
		for _, other := range [][]int{l[1:], l[:len(l)-1], append([]int{l[0]}, l...), append(slices.Clone(l), l[len(l)-1]), append(slices.Clone(l), 1_000_000), append([]int{1}, l...)} {
			if accepts(t, s, other) {
				t.Errorf("Check(%d, %d, %v)", s.a, s.b, other)
			}
		}
	}
}

// P5.4
func TestPracticalNumbersHaveAllSums(t *testing.T) {
	for n := 1; n <= 2000; n++ {
		if want := practical(n, divisorSums(n)); mustPractical(t, n) != want {
			t.Errorf("Practical(%d): not %t", n, want)
		}
	}
}

// P5.4
func TestPracticalExamples(t *testing.T) {
	first := []int{1, 2, 4, 6, 8, 12, 16, 18, 20, 24, 28, 30, 32, 36, 40, 42, 48, 54, 56, 60, 64, 66, 72, 78, 80, 84, 88, 90, 96, 100}
	for n := 1; n <= 100; n++ {
		if mustPractical(t, n) != slices.Contains(first, n) {
			t.Errorf("Practical(%d): not %t", n, slices.Contains(first, n))
		}
	}
	for n, want := range map[int]bool{70: false, 1024: true, 1680: true, 1999: false, 2000: true} {
		if mustPractical(t, n) != want {
			t.Errorf("Practical(%d): not %t", n, want)
		}
	}
}

// greatestFirst returns the divisors of n, falling, that sum to m, each time the
// greatest with which it can be done, or nil if there are none.
func greatestFirst(n, m int, list []int, rows [][]bool) []int {
	if m >= len(rows[0]) || !rows[len(list)][m] {
		return nil
	}
	var result []int
	for i := len(list) - 1; i >= 0; i-- {
		if d := list[i]; m >= d && rows[i][m-d] {
			result = append(result, d)
			m -= d
		}
	}
	return result
}

// P5.4: all sums, and some numbers above the greatest one.
func TestPartsTakeTheGreatestDivisors(t *testing.T) {
	for n := 1; n <= 2000; n++ {
		list, rows := divisors(n), divisorSums(n)
		highest := len(rows[0]) - 1
		for m := 1; m <= highest+2; m++ {
			l, e := shares.Parts(n, m)
			listOrNone(t, greatestFirst(n, m, list, rows), l, e, "Parts", n, m)
		}
		l, e := shares.Parts(n, 10_000)
		listOrNone(t, nil, l, e, "Parts", n, 10_000)
	}
}

// P5.4: nil stands for ErrNone.
func TestPartsExamples(t *testing.T) {
	for _, c := range []struct {
		n, m int
		want []int
	}{
		{12, 11, []int{6, 4, 1}}, {10, 4, nil}, {1, 1, []int{1}}, {1, 2, nil}, {2, 3, []int{2, 1}}, {2, 4, nil}, {12, 28, []int{12, 6, 4, 3, 2, 1}}, {12, 29, nil},
		{12, 12, []int{12}}, {6, 6, []int{6}}, {9, 2, nil}, {9, 13, []int{9, 3, 1}}, {2000, 10_000, nil}, {1680, 5952, []int{1680, 840, 560, 420, 336, 280, 240, 210, 168, 140, 120, 112, 105, 84, 80, 70, 60, 56, 48, 42, 40, 35, 30, 28, 24, 21, 20, 16, 15, 14, 12, 10, 8, 7, 6, 5, 4, 3, 2, 1}},
		// With 35 it cannot be done, and not with 10 after 14.
		{70, 39, []int{14, 10, 7, 5, 2, 1}}, {70, 36, []int{35, 1}}, {70, 28, []int{14, 7, 5, 2}}, {70, 4, nil},
	} {
		l, e := shares.Parts(c.n, c.m)
		listOrNone(t, c.want, l, e, "Parts", c.n, c.m)
	}
}

// three returns the first three numbers: all second ones up to 50,000 are tried,
// where y is at most 2 n x / (4 x - n), which is 44,850 for 299 and 75.
func three(n int) [3]int {
	for x := 1; ; x++ {
		for y := x; y <= 50_000; y++ {
			num, den := 4*x*y-n*(x+y), n*x*y
			if num > 0 && den%num == 0 && den/num >= y {
				return [3]int{x, y, den / num}
			}
		}
	}
}

// P5.5
func TestThreeIsTheFirst(t *testing.T) {
	for n := 2; n <= 300; n++ {
		if l, e := shares.Three(n); l != three(n) || e != api.OK {
			t.Errorf("Three(%d): %v, error %d, not %v", n, l, e, three(n))
		}
	}
	for n, want := range map[int][3]int{2: {1, 2, 2}, 3: {1, 4, 12}, 4: {2, 3, 6}, 5: {2, 4, 20}, 6: {2, 7, 42}, 8: {3, 7, 42}, 12: {4, 13, 156}, 193: {50, 1380, 1331700}, 300: {76, 5701, 32495700}} {
		if l, e := shares.Three(n); l != want || e != api.OK {
			t.Errorf("Three(%d): %v, error %d, not %v", n, l, e, want)
		}
	}
}

// P5.6
func TestSplitHasTheLeastSecond(t *testing.T) {
	for d := 2; d <= 250; d++ {
		var want [2]int
		// 1/d - 1/y is 1/x.
		for y := 2 * d; want[1] == 0; y++ {
			if d*y%(y-d) == 0 && d*y/(y-d) < y {
				want = [2]int{d * y / (y - d), y}
			}
		}
		if l, e := shares.Split(d); l != want || e != api.OK {
			t.Errorf("Split(%d): %v, error %d, not %v", d, l, e, want)
		}
	}
}

// P5.6: (x - d) (y - d) is d^2, so y - d is its least divisor above d.
func TestSplitOfGreatNumbers(t *testing.T) {
	numbers := []int{65536, 65521, 83160, 99991, 99999, 100_000}
	for d := 251; d <= 100_000; d += 487 {
		numbers = append(numbers, d)
	}
	for _, d := range numbers {
		low := d - 1
		for d*d%low != 0 {
			low--
		}
		want := [2]int{d + low, d + d*d/low}
		if l, e := shares.Split(d); l != want || e != api.OK {
			t.Errorf("Split(%d): %v, error %d, not %v", d, l, e, want)
		}
	}
	for d, want := range map[int][2]int{2: {3, 6}, 3: {4, 12}, 4: {6, 12}, 6: {10, 15}, 12: {21, 28}, 99991: {99992, 9998300072}, 100_000: {180_000, 225_000}} {
		if l, e := shares.Split(d); l != want || e != api.OK {
			t.Errorf("Split(%d): %v, error %d, not %v", d, l, e, want)
		}
	}
}

// P5.7
func TestBoundIsTheGreatestFirst(t *testing.T) {
	nones := [4]int{}
	for _, s := range allShares() {
		for terms := 1; terms <= 3; terms++ {
			want, f := s.bound(terms), api.OK
			if want == 0 {
				f = api.ErrNone
				nones[terms]++
			}
			if n, e := shares.Bound(s.a, s.b, terms); n != want || e != f {
				t.Errorf("Bound(%d, %d, %d): %d, error %d, not %d, error %d", s.a, s.b, terms, n, e, want, f)
			}
		}
	}
	if slices.Min(nones[1:]) == 0 {
		t.Errorf("there is always a sum: %v", nones)
	}
}

// P5.7: 0 stands for ErrNone.
func TestBoundExamples(t *testing.T) {
	for _, c := range []struct{ a, b, terms, want int }{
		{4, 5, 3, 2}, {4, 5, 2, 0}, {4, 5, 1, 0}, {1, 2, 1, 2}, {2, 4, 1, 2}, {1, 2, 2, 3}, {1, 2, 3, 4}, {1, 60, 1, 60}, {2, 3, 2, 2}, {5, 6, 2, 2}, {5, 6, 1, 0}, {1, 6, 2, 10}, {59, 60, 3, 0},
	} {
		n, e := shares.Bound(c.a, c.b, c.terms)
		if n != c.want || c.want > 0 && e != api.OK || c.want == 0 && e != api.ErrNone {
			t.Errorf("Bound(%d, %d, %d): %d, error %d, not %d", c.a, c.b, c.terms, n, e, c.want)
		}
	}
}
