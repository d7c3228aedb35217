package pell_test

import (
	"math/big"
	"slices"
	"testing"

	"gherkin/api"
	"gherkin/pell"
)

// P1.1
func TestExpandTurnsOverTheSquareRoot(t *testing.T) {
	for _, d := range allD() {
		if list, e := pell.Expand(d); e != api.OK || !slices.Equal(list, bySquareRoot(d)) {
			t.Errorf("Expand(%d): %v, error %d, not %v", d, list, e, bySquareRoot(d))
		}
	}
}

// P1.1
func TestExpandExamples(t *testing.T) {
	for d, want := range map[int][]int{
		2: {1, 2}, 3: {1, 1, 2}, 7: {2, 1, 1, 1, 4}, 82: {9, 18}, 99: {9, 1, 18},
		94: {9, 1, 2, 3, 1, 1, 5, 1, 8, 1, 5, 1, 1, 3, 2, 1, 18},
	} {
		if list, e := pell.Expand(d); e != api.OK || !slices.Equal(list, want) {
			t.Errorf("Expand(%d): %v, error %d, not %v", d, list, e, want)
		}
	}
}

// P1.1
func TestConvergentIsExactOrTooLarge(t *testing.T) {
	limit := big.NewInt(1_000_000_000_000_000_000)
	for _, d := range allD() {
		for k, want := range bigConvergents(d, 20) {
			p, q, e := pell.Convergent(d, k)
			if want[0].Cmp(limit) > 0 {
				if p != 0 || q != 0 || e != api.ErrSize {
					t.Errorf("Convergent(%d, %d): %d %d, error %d, not ErrSize", d, k, p, q, e)
				}
			} else if e != api.OK || want[0].Cmp(big.NewInt(int64(p))) != 0 || want[1].Cmp(big.NewInt(int64(q))) != 0 {
				t.Errorf("Convergent(%d, %d): %d %d, error %d, not %v", d, k, p, q, e, want)
			}
		}
	}
}

// P1.1
func TestConvergentExamples(t *testing.T) {
	for _, c := range []struct{ d, k, p, q int }{
		{7, 0, 2, 1}, {7, 1, 3, 1}, {7, 2, 5, 2}, {7, 3, 8, 3}, {7, 4, 37, 14},
		{2, 0, 1, 1}, {2, 20, 54608393, 38613965}, {3, 1, 2, 1},
	} {
		if p, q, e := pell.Convergent(c.d, c.k); p != c.p || q != c.q || e != api.OK {
			t.Errorf("Convergent(%d, %d): %d %d, error %d, not %d %d", c.d, c.k, p, q, e, c.p, c.q)
		}
	}
}

// P1.2
func TestUnitHasTheLeastY(t *testing.T) {
	for _, d := range allD() {
		s, norm := mustUnit(t, d)
		if s[0] < 1 || s[1] < 1 || norm != 1 && norm != -1 || s[0]*s[0]-d*s[1]*s[1] != norm {
			t.Errorf("Unit(%d): %v with %d is no unit", d, s, norm)
			continue
		}
		all := search(d, min(s[1], 300_000)) // above the y of all units
		for _, n := range []int{1, -1} {
			for _, other := range all.of(n) {
				if other[1] >= 1 && other[1] < s[1] {
					t.Errorf("Unit(%d): %v, but %v has a lesser y", d, s, other)
				}
			}
		}
	}
}

// P1.2
func TestRightHasTheLeastY(t *testing.T) {
	const most = 300_000 // above the y of all right units but a few
	for _, d := range allD() {
		s := mustRight(t, d)
		if s[0] < 1 || s[1] < 1 || s[0]*s[0]-d*s[1]*s[1] != 1 {
			t.Errorf("Right(%d): %v has not the norm 1", d, s)
			continue
		}
		for _, other := range search(d, min(s[1], most)).of(1) {
			if other[1] >= 1 && other[1] < s[1] {
				t.Errorf("Right(%d): %v, but %v has a lesser y", d, s, other)
			}
		}
	}
}

// P1.2
func TestUnitExamples(t *testing.T) {
	for _, c := range []struct {
		d     int
		unit  [2]int
		norm  int
		right [2]int
	}{
		{2, [2]int{1, 1}, -1, [2]int{3, 2}},
		{3, [2]int{2, 1}, 1, [2]int{2, 1}},
		{5, [2]int{2, 1}, -1, [2]int{9, 4}},
		{7, [2]int{8, 3}, 1, [2]int{8, 3}},
		{13, [2]int{18, 5}, -1, [2]int{649, 180}},
		{61, [2]int{29718, 3805}, -1, [2]int{1766319049, 226153980}},
		{94, [2]int{2143295, 221064}, 1, [2]int{2143295, 221064}},
		{97, [2]int{5604, 569}, -1, [2]int{62809633, 6377352}},
	} {
		if s, norm := mustUnit(t, c.d); s != c.unit || norm != c.norm {
			t.Errorf("Unit(%d): %v with %d, not %v with %d", c.d, s, norm, c.unit, c.norm)
		}
		if s := mustRight(t, c.d); s != c.right {
			t.Errorf("Right(%d): %v, not %v", c.d, s, c.right)
		}
	}
}

// P1.3
func TestSolveFindsAll(t *testing.T) {
	for _, d := range allD() {
		all := search(d, 5000)
		for _, n := range allN() {
			for _, most := range []int{0, 1, 10, 400} {
				checkSolve(t, d, n, most, all)
			}
		}
		for n := -100 + d%7; n <= 100; n += 7 {
			if n != 0 {
				checkSolve(t, d, n, 5000, all)
			}
		}
	}
}

func checkSolve(t *testing.T, d, n, most int, all *found) {
	t.Helper()
	var want [][2]int
	for _, s := range all.of(n) {
		if s[0] >= 0 && s[1] <= most {
			want = append(want, s)
		}
	}
	if list := mustSolve(t, d, n, most); !slices.Equal(list, want) {
		t.Errorf("Solve(%d, %d, %d): %v, not %v", d, n, most, list, want)
	}
}

// P1.3
func TestSolveAtItsEdges(t *testing.T) {
	for _, c := range []struct {
		d, n, most int
		want       [][2]int
	}{
		{2, 7, 20, [][2]int{{3, 1}, {5, 3}, {13, 9}, {27, 19}}},
		{2, 7, 19, [][2]int{{3, 1}, {5, 3}, {13, 9}, {27, 19}}},
		{2, 7, 18, [][2]int{{3, 1}, {5, 3}, {13, 9}}},
		{2, 7, 0, nil},
		{2, 4, 0, [][2]int{{2, 0}}},
		{2, 1, 2, [][2]int{{1, 0}, {3, 2}}},
		{5, -5, 1, [][2]int{{0, 1}}},
		{99, -99, 1, [][2]int{{0, 1}}},
		{10, 100, 3, [][2]int{{10, 0}}},
		{3, 2, 5000, nil},
		{6, 19, 4998, [][2]int{{5, 1}, {13, 5}, {37, 15}, {125, 51}, {365, 149}, {1237, 505}, {3613, 1475}}},
		{6, 19, 4999, [][2]int{{5, 1}, {13, 5}, {37, 15}, {125, 51}, {365, 149}, {1237, 505}, {3613, 1475}, {12245, 4999}}},
		{24, 76, 5000, [][2]int{{10, 1}, {26, 5}, {74, 15}, {250, 51}, {730, 149}, {2474, 505}, {7226, 1475}, {24490, 4999}}},
	} {
		if list := mustSolve(t, c.d, c.n, c.most); !slices.Equal(list, c.want) {
			t.Errorf("Solve(%d, %d, %d): %v, not %v", c.d, c.n, c.most, list, c.want)
		}
	}
}

// P1.4
func TestClassesHasTheFirstOfEach(t *testing.T) {
	for _, d := range allD() {
		all := search(d, enough)
		for _, n := range allN() {
			var want [][2]int
			for _, s := range all.of(n) {
				known := func(first [2]int) bool { return alike(d, n, first, s) }
				if !slices.ContainsFunc(want, known) {
					want = append(want, s)
				}
			}
			slices.SortFunc(want, func(a, b [2]int) int {
				if a[1] != b[1] {
					return a[1] - b[1]
				}
				return a[0] - b[0]
			})
			if list := mustClasses(t, d, n); !slices.Equal(list, want) {
				t.Errorf("Classes(%d, %d): %v, not %v", d, n, list, want)
			}
		}
	}
}

// P1.4
func TestClassesExamples(t *testing.T) {
	for _, c := range []struct {
		d, n int
		want [][2]int
	}{
		{2, 7, [][2]int{{-3, 1}, {3, 1}}},
		{2, 1, [][2]int{{1, 0}}},
		{2, -1, [][2]int{{1, 1}}},
		{3, -1, nil},
		{2, 4, [][2]int{{2, 0}}},
		{2, -98, [][2]int{{0, 7}, {-8, 9}, {8, 9}}},
		{5, 4, [][2]int{{2, 0}, {-3, 1}, {3, 1}}},
		{10, 81, [][2]int{{9, 0}, {-11, 2}, {11, 2}, {-21, 6}, {21, 6}}},
		{34, -98, nil},
		{61, -100, [][2]int{
			{-12, 2}, {12, 2}, {-195, 25}, {195, 25}, {-2757, 353}, {2757, 353},
			{-21033, 2693}, {21033, 2693}, {297180, 38050},
		}},
	} {
		if list := mustClasses(t, c.d, c.n); !slices.Equal(list, c.want) {
			t.Errorf("Classes(%d, %d): %v, not %v", c.d, c.n, list, c.want)
		}
	}
}

// P1.5
func TestSameIsTheDefinition(t *testing.T) {
	for _, d := range allD() {
		all := search(d, 500)
		for _, n := range allN() {
			list := all.of(n)
			for i, a := range list {
				for _, b := range list[:min(i+1, 12)] {
					for _, c := range [][2]int{b, {-b[0], -b[1]}, {b[0], -b[1]}} {
						if same := mustSame(t, d, n, a, c); same != alike(d, n, a, c) {
							t.Errorf("Same(%d, %d, %v, %v): %t", d, n, a, c, same)
						}
					}
				}
			}
		}
	}
}

// P1.5: both numbers must be divisible, one is not enough.
func TestSameExamples(t *testing.T) {
	for _, c := range []struct {
		d, n int
		a, b [2]int
		want bool
	}{
		{2, 7, [2]int{3, 1}, [2]int{13, 9}, true},
		{2, 7, [2]int{3, 1}, [2]int{5, 3}, false},
		{2, 7, [2]int{-3, 1}, [2]int{5, 3}, true},
		{2, 7, [2]int{3, -1}, [2]int{5, 3}, true},
		{2, 7, [2]int{3, 1}, [2]int{-3, -1}, true},
		{2, 7, [2]int{3, 1}, [2]int{3, -1}, false},
		{2, 4, [2]int{2, 0}, [2]int{-2, 0}, true},
		{5, 4, [2]int{2, 0}, [2]int{3, 1}, false},
		{2, 1, [2]int{1, 0}, [2]int{114243, 80782}, true},
		{2, 1, [2]int{-114243, -80782}, [2]int{114243, -80782}, true},
		{39, 100, [2]int{10, 0}, [2]int{624250, -99960}, true},
		{99, -95, [2]int{946442, 95121}, [2]int{946442, -95121}, false},
	} {
		if same := mustSame(t, c.d, c.n, c.a, c.b); same != c.want {
			t.Errorf("Same(%d, %d, %v, %v): %t", c.d, c.n, c.a, c.b, same)
		}
	}
}

// P1.5: pairs of which the first one of the two numbers alone is divisible by n.
// (If the second one is, so is the first one.)
func TestSameLooksAtBothNumbers(t *testing.T) {
	count := 0
	for _, d := range allD() {
		all := search(d, 100)
		for _, n := range allN() {
			for _, a := range all.of(n) {
				for _, b := range all.of(n) {
					one := (a[0]*b[0]-d*a[1]*b[1])%n == 0
					two := (a[0]*b[1]-a[1]*b[0])%n == 0
					if !one || two {
						continue
					}
					count++
					if mustSame(t, d, n, a, b) {
						t.Errorf("Same(%d, %d, %v, %v): true", d, n, a, b)
					}
				}
			}
		}
	}
	if count < 1000 {
		t.Errorf("only %d pairs were looked at", count)
	}
}

// P1.6
func TestObstructTriesAllPairs(t *testing.T) {
	for _, d := range allD() {
		want := map[int]int{}
		for m := 2; m <= 100; m++ {
			reached := make([]bool, m)
			for x := range m {
				for y := range m {
					reached[((x*x-d*y*y)%m+m)%m] = true
				}
			}
			for _, n := range allN() {
				if _, known := want[n]; !known && !reached[(n%m+m)%m] {
					want[n] = m
				}
			}
		}
		for _, n := range allN() {
			m, e := pell.Obstruct(d, n)
			if least, ok := want[n]; ok && (m != least || e != api.OK) {
				t.Errorf("Obstruct(%d, %d): %d, error %d, not %d", d, n, m, e, least)
			} else if !ok && (m != 0 || e != api.ErrNone) {
				t.Errorf("Obstruct(%d, %d): %d, error %d, not ErrNone", d, n, m, e)
			}
		}
	}
}

// P1.6
func TestObstructExamples(t *testing.T) {
	for _, c := range []struct {
		d, n, m int
		e       api.Errno
	}{
		{3, 2, 3, api.OK}, {2, 7, 0, api.ErrNone}, {3, -1, 3, api.OK},
		{34, -1, 0, api.ErrNone}, {34, -98, 0, api.ErrNone}, {8, 3, 4, api.OK},
	} {
		if m, e := pell.Obstruct(c.d, c.n); m != c.m || e != c.e {
			t.Errorf("Obstruct(%d, %d): %d, error %d, not %d, error %d", c.d, c.n, m, e, c.m, c.e)
		}
	}
}

// P1.7
func TestBestIsTheNearest(t *testing.T) {
	const bits = 200 // two different distances here differ by far more than 2^-150
	for _, d := range allD() {
		r := new(big.Float).SetPrec(bits).SetInt64(int64(d))
		r.Sqrt(r)
		least := new(big.Float).SetPrec(bits).SetInt64(1)
		bestP, bestQ := 0, 0
		for q := 1; q <= 1000; q++ {
			product := new(big.Float).SetPrec(bits).Mul(r, big.NewFloat(float64(q)))
			below, _ := product.Int64()
			for p := below; p <= below+1; p++ {
				distance := new(big.Float).SetPrec(bits).Sub(product, big.NewFloat(float64(p)))
				if distance.Abs(distance).Cmp(least) < 0 {
					least, bestP, bestQ = distance, int(p), q
				}
			}
			if p, q2, e := pell.Best(d, q); p != bestP || q2 != bestQ || e != api.OK {
				t.Errorf("Best(%d, %d): %d %d, error %d, not %d %d", d, q, p, q2, e, bestP, bestQ)
			}
		}
	}
}

// P1.7
func TestBestExamples(t *testing.T) {
	for _, c := range []struct{ d, most, p, q int }{
		{2, 10, 7, 5}, {2, 1, 1, 1}, {2, 2, 3, 2}, {2, 12, 17, 12}, {2, 11, 7, 5},
		{3, 1, 2, 1}, {7, 1, 3, 1}, {7, 2, 5, 2}, {99, 1, 10, 1}, {82, 17, 9, 1}, {2, 1000, 1393, 985},
	} {
		if p, q, e := pell.Best(c.d, c.most); p != c.p || q != c.q || e != api.OK {
			t.Errorf("Best(%d, %d): %d %d, error %d, not %d %d", c.d, c.most, p, q, e, c.p, c.q)
		}
	}
}
