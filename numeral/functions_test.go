package numeral_test

import (
	"math/big"
	"slices"
	"strings"
	"testing"

	"gherkin/api"
	"gherkin/numeral"
)

// fits checks a number together with its error: it is the one wanted, or 0 with
// ErrSize if that is above 10^12.
func fits(t *testing.T, want *big.Int, n int, e api.Errno, call string, arguments ...any) {
	t.Helper()
	if want.Cmp(big.NewInt(greatest)) > 0 {
		if n != 0 || e != api.ErrSize {
			t.Errorf("%s of %v: %d, error %d, not ErrSize for %d", call, arguments, n, e, want)
		}
	} else if e != api.OK || want.Cmp(big.NewInt(int64(n))) != 0 {
		t.Errorf("%s of %v: %d, error %d, not %d", call, arguments, n, e, want)
	}
}

// P3.1
func TestEncodeCountsThroughAllNumerals(t *testing.T) {
	for n, want := range numerals(22) {
		if l := mustEncode(t, n); !slices.Equal(l, want) {
			t.Errorf("Encode(%d): %v, not %v", n, l, want)
		}
		if value := mustValue(t, want); value != n {
			t.Errorf("Value(%v): %d, not %d", want, value, n)
		}
	}
}

// P3.1
func TestEncodeSumsUpToTheNumber(t *testing.T) {
	for _, n := range someNumbers() {
		l := mustEncode(t, n)
		if !isNumeral(l) || sumAt(l).Cmp(big.NewInt(int64(n))) != 0 {
			t.Errorf("Encode(%d): %v", n, l)
		}
	}
}

// P3.1
func TestValueSumsUp(t *testing.T) {
	for _, l := range someNumerals() {
		n, e := numeral.Value(l)
		fits(t, sumAt(l), n, e, "Value", l)
	}
}

// P3.1: 10^12, 10^12 + 1, and the least and the greatest numeral with the
// highest index.
func TestValueEndsAt10To12(t *testing.T) {
	last := []int{59, 52, 49, 46, 44, 35, 30, 26, 24, 18, 16, 13, 11, 7, 4}
	if l := mustEncode(t, greatest); !slices.Equal(l, last) {
		t.Errorf("Encode(%d): %v, not %v", greatest, l, last)
	}
	beyond := append(slices.Clone(last), 2)
	dense := []int{}
	for k := 60; k >= 2; k -= 2 {
		dense = append(dense, k)
	}
	for _, c := range []struct {
		l []int
		n int
		e api.Errno
	}{
		{last, greatest, api.OK}, {beyond, 0, api.ErrSize},
		{[]int{59}, 956722026041, api.OK}, {[]int{60}, 0, api.ErrSize}, {dense, 0, api.ErrSize},
	} {
		if n, e := numeral.Value(c.l); n != c.n || e != c.e {
			t.Errorf("Value(%v): %d, error %d, not %d, error %d", c.l, n, e, c.n, c.e)
		}
	}
}

// P3.1
func TestEncodeExamples(t *testing.T) {
	for n, want := range map[int][]int{
		0: nil, 1: {2}, 2: {3}, 3: {4}, 4: {4, 2}, 5: {5}, 6: {5, 2}, 7: {5, 3}, 8: {6}, 11: {6, 4}, 12: {6, 4, 2}, 14: {7, 2}, 100: {11, 6, 4},
	} {
		if l := mustEncode(t, n); !slices.Equal(l, want) {
			t.Errorf("Encode(%d): %v, not %v", n, l, want)
		}
		if value := mustValue(t, want); value != n {
			t.Errorf("Value(%v): %d, not %d", want, value, n)
		}
	}
}

// P3.2
func TestAddIsTheNumeralOfTheSum(t *testing.T) {
	for a, l := range small()[:120] {
		for b, m := range small()[:120] {
			if sum, e := numeral.Add(l, m); e != api.OK || !slices.Equal(sum, small()[a+b]) {
				t.Errorf("Add(%v, %v): %v, error %d, not %v", l, m, sum, e, small()[a+b])
			}
		}
	}
}

// P3.2
func TestAddOfLargeNumerals(t *testing.T) {
	list := someNumerals()
	for i, a := range list {
		for j := i % 5; j < len(list); j += 5 {
			b := list[j]
			sum, e := numeral.Add(a, b)
			if !isNumeral(sum) {
				t.Errorf("Add(%v, %v): %v", a, b, sum)
				continue
			}
			fits(t, new(big.Int).Add(sumAt(a), sumAt(b)), int(sumAt(sum).Int64()), e, "Add", a, b)
		}
	}
}

// P3.2
func TestAddEndsAt10To12(t *testing.T) {
	for _, c := range []struct {
		a, b int
		e    api.Errno
	}{
		{greatest, 0, api.OK}, {0, greatest, api.OK}, {greatest, 1, api.ErrSize}, {1, greatest, api.ErrSize},
		{greatest / 2, greatest / 2, api.OK}, {greatest / 2, greatest/2 + 1, api.ErrSize}, {greatest, greatest, api.ErrSize},
		{greatest - 1, 1, api.OK}, {1, greatest - 1, api.OK}, {2, greatest - 1, api.ErrSize},
	} {
		var want []int
		if c.e == api.OK {
			want = mustEncode(t, greatest)
		}
		if sum, e := numeral.Add(mustEncode(t, c.a), mustEncode(t, c.b)); e != c.e || !slices.Equal(sum, want) {
			t.Errorf("Add of %d and %d: %v, error %d, not %v, error %d", c.a, c.b, sum, e, want, c.e)
		}
	}
	for _, b := range [][]int{nil, {}, {2}, {60}} {
		if sum, e := numeral.Add([]int{60}, b); e != api.ErrSize || len(sum) != 0 {
			t.Errorf("Add of 60 and %v: %v, error %d", b, sum, e)
		}
		if sum, e := numeral.Add(b, []int{60}); e != api.ErrSize || len(sum) != 0 {
			t.Errorf("Add of %v and 60: %v, error %d", b, sum, e)
		}
	}
}

// P3.2
func TestAddExamples(t *testing.T) {
	for _, c := range []struct{ a, b, want []int }{
		{[]int{6, 4}, []int{4}, []int{7, 2}},
		{nil, nil, nil},
		{[]int{}, []int{5, 2}, []int{5, 2}},
		{[]int{5, 2}, nil, []int{5, 2}},
		{[]int{2}, []int{2}, []int{3}},
		{[]int{3}, []int{3}, []int{4, 2}},
		{[]int{8, 6, 4, 2}, []int{2}, []int{9}},
	} {
		if sum, e := numeral.Add(c.a, c.b); e != api.OK || !slices.Equal(sum, c.want) {
			t.Errorf("Add(%v, %v): %v, error %d, not %v", c.a, c.b, sum, e, c.want)
		}
	}
}

// P3.2
func TestLessComparesValues(t *testing.T) {
	list := someNumerals()
	for _, a := range list {
		for _, b := range list {
			want := sumAt(a).Cmp(sumAt(b)) < 0
			if less, e := numeral.Less(a, b); e != api.OK || less != want {
				t.Errorf("Less(%v, %v): %t, error %d", a, b, less, e)
			}
		}
	}
}

// P3.2
func TestLessExamples(t *testing.T) {
	for _, c := range []struct {
		a, b []int
		want bool
	}{
		{nil, nil, false}, {nil, []int{}, false}, {nil, []int{2}, true}, {[]int{2}, nil, false},
		{[]int{6, 4}, []int{7}, true}, {[]int{7}, []int{6, 4}, false}, {[]int{6}, []int{6, 4}, true}, {[]int{6, 4}, []int{6}, false},
		{[]int{6, 3}, []int{6, 4}, true}, {[]int{6, 4}, []int{6, 4}, false}, {[]int{9}, []int{10}, true},
		{[]int{59, 57}, []int{60}, true}, {[]int{60}, []int{60, 2}, true}, {[]int{60, 58}, []int{60, 57}, false}, {[]int{60}, []int{60}, false},
	} {
		if less, e := numeral.Less(c.a, c.b); e != api.OK || less != c.want {
			t.Errorf("Less(%v, %v): %t, error %d", c.a, c.b, less, e)
		}
	}
}

// P3.3
func TestShiftRaisesEachIndex(t *testing.T) {
	for n, l := range small() {
		want := sumAt(raised(l, 1))
		shift, e := numeral.Shift(n)
		fits(t, want, shift, e, "Shift", n)
	}
	for _, n := range someNumbers() {
		want := sumAt(raised(mustEncode(t, n), 1))
		shift, e := numeral.Shift(n)
		fits(t, want, shift, e, "Shift", n)
	}
}

// P3.3
func TestShiftExamples(t *testing.T) {
	for _, c := range []struct {
		n, want int
		e       api.Errno
	}{
		{0, 0, api.OK}, {1, 2, api.OK}, {2, 3, api.OK}, {3, 5, api.OK}, {4, 7, api.OK}, {11, 18, api.OK}, {100, 162, api.OK},
		{618033988749, 999999999999, api.OK}, {618033988750, greatest, api.OK}, {618033988751, 0, api.ErrSize}, {greatest, 0, api.ErrSize},
	} {
		if shift, e := numeral.Shift(c.n); shift != c.want || e != c.e {
			t.Errorf("Shift(%d): %d, error %d, not %d, error %d", c.n, shift, e, c.want, c.e)
		}
	}
}

// circle returns the circle product, of any size, of the numbers with these
// numerals.
func circle(l, m []int) *big.Int {
	var indices []int
	for _, j := range l {
		indices = append(indices, raised(m, j)...)
	}
	return sumAt(indices)
}

// P3.3
func TestCircleAddsIndices(t *testing.T) {
	for a, l := range small()[:200] {
		for b, m := range small()[:200] {
			n, e := numeral.Circle(a, b)
			fits(t, circle(l, m), n, e, "Circle", a, b)
		}
	}
}

// P3.3
func TestCircleOfLargeNumbers(t *testing.T) {
	list := someNumbers()
	for i, a := range list {
		for j := i % 7; j < len(list); j += 7 {
			b := list[j]
			n, e := numeral.Circle(a, b)
			fits(t, circle(mustEncode(t, a), mustEncode(t, b)), n, e, "Circle", a, b)
		}
	}
}

// P3.3: the greatest number for which there is still a product, and the next
// one.
func TestCircleEndsAt10To12(t *testing.T) {
	for a := 1; a <= 60; a++ {
		low, high := 0, greatest
		for low+1 < high {
			middle := (low + high) / 2
			if circle(small()[a], mustEncode(t, middle)).Cmp(big.NewInt(greatest)) > 0 {
				high = middle
			} else {
				low = middle
			}
		}
		for b, want := range map[int]api.Errno{low: api.OK, high: api.ErrSize, high + 1: api.ErrSize} {
			for _, c := range [][2]int{{a, b}, {b, a}} {
				n, e := numeral.Circle(c[0], c[1])
				if e != want {
					t.Errorf("Circle of %v: error %d, not %d", c, e, want)
				}
				fits(t, circle(small()[a], mustEncode(t, b)), n, e, "Circle", c)
			}
		}
	}
}

// P3.3
func TestCircleExamples(t *testing.T) {
	for _, c := range []struct {
		a, b, want int
		e          api.Errno
	}{
		{1, 1, 3, api.OK}, {3, 4, 29, api.OK}, {4, 3, 29, api.OK}, {0, 0, 0, api.OK}, {0, 9, 0, api.OK},
		{0, greatest, 0, api.OK}, {greatest, 0, 0, api.OK}, {greatest, 1, 0, api.ErrSize}, {greatest, 2, 0, api.ErrSize},
		{greatest, greatest, 0, api.ErrSize}, {956722026041, 956722026041, 0, api.ErrSize},
		// F(28), F(29) and F(30): F(57), F(59) and F(60).
		{317811, 514229, 365435296162, api.OK}, {514229, 832040, 956722026041, api.OK}, {832040, 832040, 0, api.ErrSize},
	} {
		if n, e := numeral.Circle(c.a, c.b); n != c.want || e != c.e {
			t.Errorf("Circle(%d, %d): %d, error %d, not %d, error %d", c.a, c.b, n, e, c.want, c.e)
		}
	}
}

// P3.4
func TestWordTellsWhichNumeralsHaveThe2(t *testing.T) {
	var letters strings.Builder
	for n := 0; n <= 2000; n++ {
		if word := mustWord(t, n); word != letters.String() {
			t.Fatalf("Word(%d): %q, not %q", n, word, letters.String())
		}
		if slices.Contains(small()[n], 2) {
			letters.WriteByte('1')
		} else {
			letters.WriteByte('0')
		}
	}
}

// P3.4
func TestWordExamples(t *testing.T) {
	for n, want := range map[int]string{0: "", 1: "0", 2: "01", 3: "010", 8: "01001010", 13: "0100101001001"} {
		if word := mustWord(t, n); word != want {
			t.Errorf("Word(%d): %q, not %q", n, word, want)
		}
	}
}

// P3.5
func TestColdIsWhereGoodPlayLoses(t *testing.T) {
	for a, row := range loses() {
		for b, want := range row {
			if cold := mustCold(t, a, b); cold != want {
				t.Errorf("Cold(%d, %d): %t", a, b, cold)
			}
		}
	}
}

// P3.5
func TestColdOfLargeHeaps(t *testing.T) {
	count := 0
	for n := 1; n < len(coldPairs()); n += 1 + n%11 {
		a, b := coldPairs()[n][0], coldPairs()[n][1]
		if b >= highestHeap {
			break
		}
		count++
		for _, near := range [][2]int{{a - 1, b}, {a + 1, b}, {a, b - 1}, {a, b + 1}, {a - 1, b - 1}, {a + 1, b + 1}} {
			if mustCold(t, near[0], near[1]) && near != coldPairs()[near[1]-near[0]] {
				t.Errorf("%v is cold, as %d and %d are", near, a, b)
			}
		}
		if !mustCold(t, a, b) || !mustCold(t, b, a) {
			t.Errorf("%d and %d are not cold", a, b)
		}
	}
	if count < 10000 {
		t.Errorf("only %d pairs were looked at", count)
	}
}

// P3.5
func TestMoveIsTheBestOfAllMoves(t *testing.T) {
	for a, row := range loses() {
		for b, cold := range row {
			m, e := numeral.Move(a, b)
			if cold {
				if e != api.ErrNone || m != [2]int{} {
					t.Errorf("Move(%d, %d): %v, error %d, not ErrNone", a, b, m, e)
				}
				continue
			}
			isLost := func(to [2]int) bool { return loses()[to[0]][to[1]] }
			warm := func(to [2]int) bool { return !isLost(to) }
			if want := slices.MinFunc(slices.DeleteFunc(moves(a, b), warm), better); e != api.OK || m != want {
				t.Errorf("Move(%d, %d): %v, error %d, not %v", a, b, m, e, want)
			}
		}
	}
}

// P3.5: all cold pairs are tried.
func TestMoveOfLargeHeaps(t *testing.T) {
	starts := [][2]int{
		{highestHeap, highestHeap}, {highestHeap, highestHeap - 1}, {highestHeap - 1, highestHeap}, {highestHeap, 0}, {0, highestHeap},
		{highestHeap, 1}, {1, highestHeap}, {618034, highestHeap}, {618033, highestHeap}, {highestHeap, 618034}, {381966, 618034},
	}
	for n := 3; n < highestHeap; n += n {
		starts = append(starts, [2]int{n, highestHeap - n}, [2]int{n, n + 1}, [2]int{n * 3 / 4, n}, [2]int{n, n / 3}, [2]int{n, n})
	}
	for _, from := range starts {
		var reached [][2]int
		for _, pair := range coldPairs() {
			for _, to := range [][2]int{pair, {pair[1], pair[0]}} {
				if isMove(from, to) {
					reached = append(reached, to)
				}
			}
		}
		m, e := numeral.Move(from[0], from[1])
		if len(reached) == 0 {
			if e != api.ErrNone || m != [2]int{} {
				t.Errorf("Move of %v: %v, error %d, not ErrNone", from, m, e)
			}
		} else if want := slices.MinFunc(reached, better); e != api.OK || m != want {
			t.Errorf("Move of %v: %v, error %d, not %v", from, m, e, want)
		}
	}
}

// P3.5
func TestMoveExamples(t *testing.T) {
	for _, c := range []struct {
		from, to [2]int
		e        api.Errno
	}{
		{[2]int{5, 5}, [2]int{3, 5}, api.OK}, {[2]int{4, 4}, [2]int{0, 0}, api.OK},
		{[2]int{2, 9}, [2]int{2, 1}, api.OK}, {[2]int{9, 2}, [2]int{1, 2}, api.OK},
		{[2]int{0, 1}, [2]int{0, 0}, api.OK}, {[2]int{7, 0}, [2]int{0, 0}, api.OK}, {[2]int{1, 1}, [2]int{0, 0}, api.OK},
		{[2]int{0, 0}, [2]int{}, api.ErrNone}, {[2]int{1, 2}, [2]int{}, api.ErrNone}, {[2]int{2, 1}, [2]int{}, api.ErrNone}, {[2]int{5, 3}, [2]int{}, api.ErrNone},
		{[2]int{3, 4}, [2]int{1, 2}, api.OK}, {[2]int{4, 3}, [2]int{2, 1}, api.OK}, {[2]int{3, 3}, [2]int{0, 0}, api.OK},
	} {
		if m, e := numeral.Move(c.from[0], c.from[1]); m != c.to || e != c.e {
			t.Errorf("Move of %v: %v, error %d, not %v, error %d", c.from, m, e, c.to, c.e)
		}
	}
}

// P3.5
func TestPairIsTheColdPairWithTheDifference(t *testing.T) {
	for n := 0; n <= 100_000; n++ {
		if pair := mustPair(t, n); pair != coldPairs()[n] {
			t.Fatalf("Pair(%d): %v, not %v", n, pair, coldPairs()[n])
		}
	}
}

// P3.5
func TestPairExamples(t *testing.T) {
	for n, want := range map[int][2]int{0: {0, 0}, 1: {1, 2}, 2: {3, 5}, 3: {4, 7}, 4: {6, 10}, 5: {8, 13}, 100_000: {161803, 261803}} {
		if pair := mustPair(t, n); pair != want {
			t.Errorf("Pair(%d): %v, not %v", n, pair, want)
		}
	}
}

// P3.6: all slices of digits are tried.
func TestDigitsAreTheNumeralAlong(t *testing.T) {
	for _, q := range fractions(4, 4) {
		count := 0
		for _, c := range slicesUpTo(q) {
			n, e := numeral.Along(q, c)
			if !isAlong(q, c) {
				if e != api.ErrArg || n != 0 {
					t.Errorf("Along(%v, %v): %d, error %d, not ErrArg", q, c, n, e)
				}
				continue
			}
			count++
			if e != api.OK || n != sumAlong(q, c) {
				t.Errorf("Along(%v, %v): %d, error %d, not %d", q, c, n, e, sumAlong(q, c))
			}
			if digits := mustDigits(t, q, n); !slices.Equal(digits, c) {
				t.Errorf("Digits(%v, %d): %v, not %v", q, n, digits, c)
			}
		}
		if want := denominator(q, len(q)); count != want {
			t.Errorf("%v has %d numerals, not %d", q, count, want)
		}
	}
}

// P3.6
func TestDigitsOfLongFractions(t *testing.T) {
	for _, q := range longFractions() {
		end := denominator(q, len(q))
		for _, n := range []int{0, 1, 2, end / 7, end / 3, end / 2, end * 5 / 8, end - 3, end - 2, end - 1} {
			if n < 0 || n >= end {
				continue
			}
			c := mustDigits(t, q, n)
			if !isAlong(q, c) || sumAlong(q, c) != n {
				t.Errorf("Digits(%v, %d): %v", q, n, c)
			}
			if back, e := numeral.Along(q, c); back != n || e != api.OK {
				t.Errorf("Along(%v, %v): %d, error %d, not %d", q, c, back, e, n)
			}
		}
		for _, n := range []int{end, end + 1, 2 * end} {
			if c, e := numeral.Digits(q, n); e != api.ErrArg || len(c) != 0 {
				t.Errorf("Digits(%v, %d): %v, error %d, not ErrArg", q, n, c, e)
			}
		}
	}
}

// P3.6
func TestDigitsExamples(t *testing.T) {
	for _, x := range []struct {
		q []int
		n int
		c []int
	}{
		{[]int{2, 1, 1}, 4, []int{1, 0, 1}}, {[]int{2, 1, 1}, 2, []int{0, 1, 0}}, {[]int{2, 1, 1}, 0, []int{0, 0, 0}},
		{[]int{1}, 0, []int{0}}, {[]int{9}, 8, []int{8}}, {[]int{1, 1}, 1, []int{0, 1}}, {[]int{1, 9}, 9, []int{0, 9}},
		{[]int{3, 2}, 6, []int{0, 2}}, {[]int{3, 2}, 5, []int{2, 1}},
		{slices.Repeat([]int{9}, 10), 3889316088, []int{0, 9, 0, 9, 0, 9, 0, 9, 0, 9}},
	} {
		if c := mustDigits(t, x.q, x.n); !slices.Equal(c, x.c) {
			t.Errorf("Digits(%v, %d): %v, not %v", x.q, x.n, c, x.c)
		}
		if n, e := numeral.Along(x.q, x.c); n != x.n || e != api.OK {
			t.Errorf("Along(%v, %v): %d, error %d, not %d", x.q, x.c, n, e, x.n)
		}
	}
}

// P3.7
func TestGapsAreThoseOfAWalk(t *testing.T) {
	for _, c := range circles() {
		if list, want := mustGaps(t, c), walked(c[0], c[1], c[2]); !slices.Equal(list, want) {
			t.Errorf("Gaps of %v: %v, not %v", c, list, want)
		}
	}
}

// P3.7
func TestGapsExamples(t *testing.T) {
	for _, x := range []struct {
		c    [3]int
		want [][2]int
	}{
		{[3]int{3, 8, 3}, [][2]int{{2, 1}, {3, 2}}},
		{[3]int{1, 2, 1}, [][2]int{{2, 1}}},
		{[3]int{1, 2, 2}, [][2]int{{1, 2}}},
		{[3]int{3, 8, 1}, [][2]int{{8, 1}}},
		{[3]int{3, 8, 2}, [][2]int{{3, 1}, {5, 1}}},
		{[3]int{3, 8, 4}, [][2]int{{1, 1}, {2, 2}, {3, 1}}},
		{[3]int{3, 8, 8}, [][2]int{{1, 8}}},
		{[3]int{999, 1000, 1000}, [][2]int{{1, 1000}}},
		{[3]int{999, 1000, 2}, [][2]int{{1, 1}, {999, 1}}},
	} {
		if list := mustGaps(t, x.c); !slices.Equal(list, x.want) {
			t.Errorf("Gaps of %v: %v, not %v", x.c, list, x.want)
		}
	}
}
