package numeral_test

import (
	"math/big"
	"slices"
	"strings"
	"testing"

	"gherkin/api"
	"gherkin/numeral"
)

// P3.8
func TestEncodeAndValueGoBack(t *testing.T) {
	for _, n := range someNumbers() {
		if back := mustValue(t, mustEncode(t, n)); back != n {
			t.Errorf("Value of Encode of %d: %d", n, back)
		}
	}
	count := 0
	for _, l := range someNumerals() {
		n, e := numeral.Value(l)
		if e == api.ErrSize {
			continue
		}
		count++
		if back := mustEncode(t, n); !slices.Equal(back, l) {
			t.Errorf("Encode of Value of %v: %v", l, back)
		}
	}
	if count < 400 {
		t.Errorf("only %d numerals were looked at", count)
	}
}

// P3.8
func TestNumeralsAreOrderedAsTheirValues(t *testing.T) {
	list := someNumbers()
	for _, a := range list {
		for _, b := range list {
			l, m := mustEncode(t, a), mustEncode(t, b)
			less, e := numeral.Less(l, m)
			if less != (a < b) || e != api.OK || slices.Compare(l, m) < 0 != less {
				t.Errorf("%d and %d: Less(%v, %v): %t, error %d", a, b, l, m, less, e)
			}
		}
	}
}

// shiftable returns numbers whose Shift of Shift is at most 10^12.
func shiftable() []int {
	var list []int
	for _, n := range append(someNumbers(), 381966011248, 381966011249, 381966011250) {
		if n <= 381966011250 {
			list = append(list, n)
		}
	}
	return list
}

// P3.9
func TestShiftOfShiftIsTheSum(t *testing.T) {
	for _, n := range shiftable() {
		shift := mustShift(t, n)
		again, e := numeral.Shift(shift)
		fits(t, big.NewInt(int64(shift+n)), again, e, "Shift of Shift", n)
	}
}

// P3.9: s differs from n times the golden ratio by less than 1 if the square of
// 5 n^2 lies between 2 (s - 1) - n and 2 (s + 1) - n.
func TestShiftIsNearToTheGoldenRatio(t *testing.T) {
	for _, n := range append(shiftable(), 618033988749, 618033988750) {
		s := mustShift(t, n)
		square := func(x int) *big.Int { return new(big.Int).Mul(big.NewInt(int64(x)), big.NewInt(int64(x))) }
		exact := new(big.Int).Mul(big.NewInt(5), square(n))
		low, high := 2*(s-1)-n, 2*(s+1)-n
		if high < 0 || square(high).Cmp(exact) <= 0 || low >= 0 && square(low).Cmp(exact) >= 0 {
			t.Errorf("Shift(%d): %d", n, s)
		}
	}
}

// P3.10
func TestCircleIsCommutativeAndAssociative(t *testing.T) {
	for a := range 40 {
		for b := range 40 {
			ab := mustCircle(t, a, b)
			if ba := mustCircle(t, b, a); ba != ab {
				t.Errorf("Circle of %d and %d: %d, but %d", a, b, ab, ba)
			}
			for c := range 40 {
				if left, right := mustCircle(t, ab, c), mustCircle(t, a, mustCircle(t, b, c)); left != right {
					t.Errorf("Circle of %d, %d and %d: %d and %d", a, b, c, left, right)
				}
			}
		}
	}
	for _, x := range [][3]int{{7, 99, 1_000_000}, {4321, 999, 88}, {5000, 5001, 4999}, {1, 2, 29_999_999_999}, {83204, 83202, 11}} {
		left := mustCircle(t, mustCircle(t, x[0], x[1]), x[2])
		right := mustCircle(t, x[0], mustCircle(t, x[1], x[2]))
		if left != right || left == 0 {
			t.Errorf("Circle of %v: %d and %d", x, left, right)
		}
	}
}

// P3.10
func TestCircleHasNo1(t *testing.T) {
	for _, n := range someNumbers() {
		if product, e := numeral.Circle(n, 1); e == api.OK && product == 1 {
			t.Errorf("Circle(%d, 1) is 1", n)
		}
	}
	for _, n := range shiftable() {
		again, e := numeral.Shift(mustShift(t, n))
		if product, f := numeral.Circle(1, n); product != again || e != f {
			t.Errorf("Circle(1, %d): %d, error %d, not %d, error %d", n, product, f, again, e)
		}
	}
}

// P3.11
func TestNoMoveLeadsFromColdToCold(t *testing.T) {
	for n := range 60 {
		pair := mustPair(t, n)
		for _, from := range [][2]int{pair, {pair[1], pair[0]}} {
			if !mustCold(t, from[0], from[1]) {
				t.Errorf("%v is not cold", from)
			}
			for _, to := range moves(from[0], from[1]) {
				if mustCold(t, to[0], to[1]) {
					t.Errorf("from %v to %v", from, to)
				}
			}
		}
	}
}

// P3.11
func TestMoveLeadsToACold(t *testing.T) {
	for a := range 120 {
		for b := range 120 {
			to, e := numeral.Move(a, b)
			if e == api.OK && (!isMove([2]int{a, b}, to) || !mustCold(t, to[0], to[1])) {
				t.Errorf("Move(%d, %d): %v", a, b, to)
			}
			if mustCold(t, a, b) != (e == api.ErrNone) {
				t.Errorf("Move(%d, %d): error %d", a, b, e)
			}
		}
	}
}

// P3.11: the lesser heaps up to n = 100,000 are all below 161,804, and all
// numbers up to there are in these pairs.
func TestPairsHaveAllNumbersOnce(t *testing.T) {
	times := make([]int, 300_000)
	for n := 1; n <= 100_000; n++ {
		pair := mustPair(t, n)
		times[pair[0]]++
		times[pair[1]]++
	}
	for number, count := range times {
		if count > 1 || number >= 1 && number <= 161803 && count != 1 || number == 0 && count != 0 {
			t.Errorf("%d comes %d times", number, count)
		}
	}
}

// P3.11
func TestPairsAreNumeralsAndTheirShifts(t *testing.T) {
	for n := 1; n <= 100_000; n++ {
		pair := mustPair(t, n)
		l := mustEncode(t, pair[0])
		if l[len(l)-1]%2 != 0 || mustShift(t, pair[0]) != pair[1] || pair[1]-pair[0] != n {
			t.Errorf("Pair(%d): %v", n, pair)
		}
	}
}

// P3.12
func TestTheWordIsItsOwnImage(t *testing.T) {
	word := mustWord(t, 2000)
	image := strings.NewReplacer("0", "01", "1", "0").Replace(word)
	if !strings.HasPrefix(image, word) || len(image) < 3000 {
		t.Errorf("%q becomes %q", word, image)
	}
}

// P3.12: 2000 letters have all parts of lengths up to 600.
func TestTheWordHasFewParts(t *testing.T) {
	word := mustWord(t, 2000)
	for k := 0; k <= 600; k++ {
		parts := map[string]bool{}
		for i := 0; i+k <= len(word); i++ {
			parts[word[i:i+k]] = true
		}
		if len(parts) != k+1 {
			t.Errorf("%d parts of length %d", len(parts), k)
		}
	}
}

// P3.13
func TestAlongOfDigitsIsTheNumber(t *testing.T) {
	for _, q := range fractions(3, 9) {
		for n := range denominator(q, len(q)) {
			c := mustDigits(t, q, n)
			if back, e := numeral.Along(q, c); back != n || e != api.OK {
				t.Errorf("%v: %d has the digits %v, and these have %d, error %d", q, n, c, back, e)
			}
		}
	}
}

// P3.13
func TestDigitsAlongOnesAreGolden(t *testing.T) {
	for length := 1; length <= 10; length++ {
		q := slices.Repeat([]int{1}, length)
		q[0] = 2
		for n := range denominator(q, length) {
			want := make([]int, length)
			for _, k := range mustEncode(t, n) {
				want[k-2] = 1
			}
			if c := mustDigits(t, q, n); !slices.Equal(c, want) {
				t.Errorf("Digits(%v, %d): %v, not %v", q, n, c, want)
			}
		}
	}
}

// P3.14
func TestThereAreAtMostThreeGaps(t *testing.T) {
	most := 0
	for _, c := range circles() {
		list := mustGaps(t, c)
		around, points := 0, 0
		for i, gap := range list {
			around += gap[0] * gap[1]
			points += gap[1]
			if gap[1] < 1 || i > 0 && gap[0] <= list[i-1][0] {
				t.Errorf("Gaps of %v: %v", c, list)
			}
		}
		if around != c[1] || points != c[2] || len(list) > 3 {
			t.Errorf("Gaps of %v: %v", c, list)
		}
		if len(list) == 3 && list[2][0] != list[0][0]+list[1][0] {
			t.Errorf("Gaps of %v: %v", c, list)
		}
		most = max(most, len(list))
	}
	if most != 3 {
		t.Errorf("nowhere are there three gaps")
	}
}
