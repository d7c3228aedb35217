package parts_test

import (
	"math/big"
	"slices"
	"testing"

	"gherkin/api"
	"gherkin/parts"
)

// P2.1
func TestListHasAllPartitions(t *testing.T) {
	for n := 0; n <= 20; n++ {
		if l, e := parts.List(n); e != api.OK || !same(l, tables()[n]) {
			t.Errorf("List(%d): %v, error %d", n, l, e)
		}
	}
}

// P2.1
func TestListExamples(t *testing.T) {
	for n, want := range [][][]int{
		{{}},
		{{1}},
		{{1, 1}, {2}},
		{{1, 1, 1}, {2, 1}, {3}},
		{{1, 1, 1, 1}, {2, 1, 1}, {2, 2}, {3, 1}, {4}},
	} {
		if l, e := parts.List(n); e != api.OK || !same(l, want) {
			t.Errorf("List(%d): %v, error %d, not %v", n, l, e, want)
		}
	}
}

// P2.1
func TestCountCountsAllPartitions(t *testing.T) {
	for n := 0; n <= most; n++ {
		if count := mustCount(t, n); count != len(tables()[n]) {
			t.Errorf("Count(%d): %d, not %d", n, count, len(tables()[n]))
		}
	}
	for n := 0; n <= 400; n++ {
		want := coins(n, numbers(n, 1, 0))
		if count := mustCount(t, n); want.Cmp(big.NewInt(int64(count))) != 0 {
			t.Errorf("Count(%d): %d, not %d", n, count, want)
		}
	}
}

// P2.1
func TestCountExamples(t *testing.T) {
	for n, want := range map[int]int{0: 1, 1: 1, 4: 5, 100: 190569292, 400: 6727090051741041926} {
		if count := mustCount(t, n); count != want {
			t.Errorf("Count(%d): %d, not %d", n, count, want)
		}
	}
}

// P2.2
func TestConjugateCountsTheColumns(t *testing.T) {
	for _, l := range upTo(most) {
		if c := mustList(t, parts.Conjugate, l); !slices.Equal(c, turned(l)) {
			t.Errorf("Conjugate(%v): %v", l, c)
		}
	}
}

// P2.2
func TestSquareIsTheGreatestK(t *testing.T) {
	for _, l := range upTo(most) {
		want := 0
		for k := 1; k <= len(l); k++ {
			large := 0
			for _, part := range l {
				if part >= k {
					large++
				}
			}
			if large >= k {
				want = k
			}
		}
		if k := mustNumber(t, parts.Square, l); k != want {
			t.Errorf("Square(%v): %d, not %d", l, k, want)
		}
	}
}

// P2.2
func TestRankIsTheGreatestPartLessTheirNumber(t *testing.T) {
	for _, l := range upTo(most) {
		want := 0
		if len(l) > 0 {
			want = slices.Max(l) - len(l)
		}
		if rank := mustNumber(t, parts.Rank, l); rank != want {
			t.Errorf("Rank(%v): %d, not %d", l, rank, want)
		}
	}
}

// P2.2
func TestCrankIsTheDefinition(t *testing.T) {
	for _, l := range upTo(most) {
		w := 0
		for _, part := range l {
			if part == 1 {
				w++
			}
		}
		want := -w
		for _, part := range l {
			if part > w && w > 0 {
				want++
			}
		}
		if w == 0 && len(l) > 0 {
			want = slices.Max(l)
		}
		if crank := mustNumber(t, parts.Crank, l); crank != want {
			t.Errorf("Crank(%v): %d, not %d", l, crank, want)
		}
	}
}

// P2.2
func TestDiagramExamples(t *testing.T) {
	for _, c := range []struct {
		l, conjugate        []int
		square, rank, crank int
	}{
		{nil, nil, 0, 0, 0},
		{[]int{}, nil, 0, 0, 0},
		{[]int{1}, []int{1}, 1, 0, -1},
		{[]int{2}, []int{1, 1}, 1, 1, 2},
		{[]int{1, 1}, []int{2}, 1, -1, -2},
		{[]int{2, 2}, []int{2, 2}, 2, 0, 2},
		{[]int{5, 3, 1}, []int{3, 2, 2, 1, 1}, 2, 2, 1},
		{[]int{3, 2, 1, 1}, []int{4, 2, 1}, 2, -1, -1},
		{[]int{3, 2, 1}, []int{3, 2, 1}, 2, 0, 1},
		{[]int{30}, slices.Repeat([]int{1}, 30), 1, 29, 30},
		{slices.Repeat([]int{1}, 30), []int{30}, 1, -29, -30},
		{[]int{5, 5, 5, 5, 5, 5}, []int{6, 6, 6, 6, 6}, 5, -1, 5},
	} {
		if l := mustList(t, parts.Conjugate, c.l); !slices.Equal(l, c.conjugate) {
			t.Errorf("Conjugate(%v): %v, not %v", c.l, l, c.conjugate)
		}
		for _, x := range []struct {
			name string
			f    number
			want int
		}{{"Square", parts.Square, c.square}, {"Rank", parts.Rank, c.rank}, {"Crank", parts.Crank, c.crank}} {
			if n := mustNumber(t, x.f, c.l); n != x.want {
				t.Errorf("%s(%v): %d, not %d", x.name, c.l, n, x.want)
			}
		}
	}
}

// moved is Franklin's move, as the chapter tells it; false if it fails.
func moved(l []int) ([]int, bool) {
	s, t := slices.Min(l), 1
	for t < len(l) && l[t] == l[0]-t {
		t++
	}
	list := slices.Clone(l)
	if s <= t {
		if t == len(l) && s == t {
			return nil, false
		}
		list = list[:len(list)-1]
		for i := range list {
			if i < s {
				list[i]++
			}
		}
		return list, true
	}
	if t == len(l) && s == t+1 {
		return nil, false
	}
	for i := range t {
		list[i]--
	}
	return append(list, t), true
}

// P2.3
func TestFranklinIsTheMove(t *testing.T) {
	failed := 0
	for _, l := range having(upTo(most), notEmpty, apart(1)) {
		want, ok := moved(l)
		m, e := parts.Franklin(l)
		if ok && (e != api.OK || !slices.Equal(m, want)) {
			t.Errorf("Franklin(%v): %v, error %d, not %v", l, m, e, want)
		}
		if !ok && (e != api.ErrState || len(m) != 0) {
			t.Errorf("Franklin(%v): %v, error %d, not ErrState", l, m, e)
		}
		if e == api.ErrState {
			failed++
		}
	}
	// The sums 1, 2, 5, 7, 12, 15, 22 and 26.
	if failed != 8 {
		t.Errorf("%d moves fail", failed)
	}
}

// P2.3
func TestFranklinExamples(t *testing.T) {
	for _, c := range []struct {
		l, want []int
		e       api.Errno
	}{
		{[]int{5, 4, 1}, []int{6, 4}, api.OK},
		{[]int{6, 4}, []int{5, 4, 1}, api.OK},
		{[]int{3, 2}, nil, api.ErrState},
		{[]int{1}, nil, api.ErrState},
		{[]int{2}, nil, api.ErrState},
		{[]int{3}, []int{2, 1}, api.OK},
		{[]int{2, 1}, []int{3}, api.OK},
		{[]int{4, 3}, nil, api.ErrState},
		{[]int{5, 4}, []int{4, 3, 2}, api.OK},
		{[]int{4, 3, 2}, []int{5, 4}, api.OK},
		{[]int{6, 5, 3, 2}, []int{7, 6, 3}, api.OK},
		{[]int{5, 4, 3}, nil, api.ErrState},
		{[]int{6, 5, 4}, nil, api.ErrState},
		{[]int{8, 7, 6, 5}, nil, api.ErrState},
		{[]int{9, 8, 7, 6}, []int{8, 7, 6, 5, 4}, api.OK},
		{[]int{30}, []int{29, 1}, api.OK},
	} {
		if l, e := parts.Franklin(c.l); e != c.e || !slices.Equal(l, c.want) {
			t.Errorf("Franklin(%v): %v, error %d, not %v, error %d", c.l, l, e, c.want, c.e)
		}
	}
}

// P2.4: an odd part comes as often as the binary digits of its number tell.
func TestGlaisherJoinsEqualParts(t *testing.T) {
	for _, l := range having(upTo(most), each(isOdd)) {
		times := map[int]int{}
		for _, part := range l {
			times[part]++
		}
		var want []int
		for part := 30; part >= 1; part-- {
			for bit := 16; bit >= 1; bit /= 2 {
				if times[part]&bit != 0 {
					want = append(want, part*bit)
				}
			}
		}
		slices.Sort(want)
		slices.Reverse(want)
		if g := mustList(t, parts.Glaisher, l); !slices.Equal(g, want) {
			t.Errorf("Glaisher(%v): %v, not %v", l, g, want)
		}
	}
}

// P2.4
func TestOddsHalvesEvenParts(t *testing.T) {
	for _, l := range having(upTo(most), apart(1)) {
		var want []int
		for _, part := range l {
			times := part & -part
			want = append(want, slices.Repeat([]int{part / times}, times)...)
		}
		slices.Sort(want)
		slices.Reverse(want)
		if o := mustList(t, parts.Odds, l); !slices.Equal(o, want) {
			t.Errorf("Odds(%v): %v, not %v", l, o, want)
		}
	}
}

// P2.4
func TestGlaisherExamples(t *testing.T) {
	for _, c := range []struct{ odd, different []int }{
		{nil, nil},
		{[]int{1}, []int{1}},
		{[]int{1, 1}, []int{2}},
		{[]int{1, 1, 1}, []int{2, 1}},
		{[]int{3, 3, 1, 1, 1}, []int{6, 2, 1}},
		{[]int{5, 3, 1}, []int{5, 3, 1}},
		{[]int{15, 15}, []int{30}},
		{slices.Repeat([]int{1}, 30), []int{16, 8, 4, 2}},
		{slices.Repeat([]int{1}, 16), []int{16}},
	} {
		if l := mustList(t, parts.Glaisher, c.odd); !slices.Equal(l, c.different) {
			t.Errorf("Glaisher(%v): %v, not %v", c.odd, l, c.different)
		}
		if l := mustList(t, parts.Odds, c.different); !slices.Equal(l, c.odd) {
			t.Errorf("Odds(%v): %v, not %v", c.different, l, c.odd)
		}
	}
}

// P2.5
func TestKindsCountsThemAll(t *testing.T) {
	conditions := []func([]int) bool{
		apart(1),
		each(isOdd),
		apart(2),
		each(func(part int) bool { return part%5 == 1 || part%5 == 4 }),
		func(l []int) bool { return apart(2)(l) && !slices.Contains(l, 1) },
		each(func(part int) bool { return part%5 == 2 || part%5 == 3 }),
	}
	for n := 0; n <= most; n++ {
		for kind, holds := range conditions {
			want := len(having(tables()[n], holds))
			if count := mustKinds(t, n, kind); count != want {
				t.Errorf("Kinds(%d, %d): %d, not %d", n, kind, count, want)
			}
		}
	}
}

// P2.5: different parts are counted by their number k. Less 0, 1, 2 .. (gap 1)
// or 0, 2, 4 .. (gap 2), from the least part on, they are any k numbers from
// the least allowed part on, whose conjugate has parts up to k.
func TestKindsOfLargeSums(t *testing.T) {
	for n := 31; n <= 100; n++ {
		for kind, c := range []struct {
			gap, least int
			parts      []int
		}{
			{1, 1, nil}, {0, 0, numbers(n, 2, 1)},
			{2, 1, nil}, {0, 0, numbers(n, 5, 1, 4)},
			{2, 2, nil}, {0, 0, numbers(n, 5, 2, 3)},
		} {
			want := big.NewInt(0)
			if c.parts != nil {
				want = coins(n, c.parts)
			} else {
				for k := 1; k <= n; k++ {
					if left := n - k*c.least - c.gap*k*(k-1)/2; left >= 0 {
						want.Add(want, coins(left, numbers(k, 1, 0)))
					}
				}
			}
			if count := mustKinds(t, n, kind); want.Cmp(big.NewInt(int64(count))) != 0 {
				t.Errorf("Kinds(%d, %d): %d, not %d", n, kind, count, want)
			}
		}
	}
}

// P2.5
func TestKindsExamples(t *testing.T) {
	for _, c := range []struct {
		n    int
		want [6]int
	}{
		{0, [6]int{1, 1, 1, 1, 1, 1}},
		{1, [6]int{1, 1, 1, 1, 0, 0}},
		{2, [6]int{1, 1, 1, 1, 1, 1}},
		{3, [6]int{2, 2, 1, 1, 1, 1}},
		{4, [6]int{2, 2, 2, 2, 1, 1}},
		{9, [6]int{8, 8, 5, 5, 3, 3}},
		{100, [6]int{444793, 444793, 74040, 74040, 46447, 46447}},
	} {
		for kind, want := range c.want {
			if count := mustKinds(t, c.n, kind); count != want {
				t.Errorf("Kinds(%d, %d): %d, not %d", c.n, kind, count, want)
			}
		}
	}
}

// P2.6
func TestHooksWalkRightAndDown(t *testing.T) {
	for _, l := range upTo(most) {
		if rows := mustHooks(t, l); !same(rows, hooks(l)) {
			t.Errorf("Hooks(%v): %v", l, rows)
		}
	}
}

// P2.6
func TestHooksExamples(t *testing.T) {
	for _, c := range []struct {
		l    []int
		want [][]int
	}{
		{nil, nil},
		{[]int{1}, [][]int{{1}}},
		{[]int{3}, [][]int{{3, 2, 1}}},
		{[]int{1, 1}, [][]int{{2}, {1}}},
		{[]int{2, 2}, [][]int{{3, 2}, {2, 1}}},
		{[]int{5, 3, 1}, [][]int{{7, 5, 4, 2, 1}, {4, 2, 1}, {1}}},
	} {
		if rows := mustHooks(t, c.l); !same(rows, c.want) {
			t.Errorf("Hooks(%v): %v, not %v", c.l, rows, c.want)
		}
	}
}

// P2.6: n is at an end of a row and a column, and the rest is a filling.
func TestFillingsTakesTheGreatestNumberAway(t *testing.T) {
	counts := map[string]int{"": 1}
	key := func(l []int) string {
		var name []byte
		for _, part := range l {
			name = append(name, byte(part))
		}
		return string(name)
	}
	for _, l := range upTo(20)[1:] {
		want := 0
		for row := range l {
			if has(l, row+1, l[row]-1) {
				continue
			}
			rest := slices.Clone(l)
			rest[row]--
			if rest[row] == 0 {
				rest = rest[:row]
			}
			want += counts[key(rest)]
		}
		counts[key(l)] = want
		if count := mustNumber(t, parts.Fillings, l); count != want {
			t.Errorf("Fillings(%v): %d, not %d", l, count, want)
		}
	}
}

// P2.6
func TestFillingsExamples(t *testing.T) {
	for _, c := range []struct {
		l    []int
		want int
	}{
		{nil, 1}, {[]int{1}, 1}, {[]int{20}, 1}, {slices.Repeat([]int{1}, 20), 1},
		{[]int{2, 1}, 2}, {[]int{5, 3, 1}, 162}, {[]int{10, 10}, 16796}, {[]int{4, 4, 4, 4}, 24024},
	} {
		if count := mustNumber(t, parts.Fillings, c.l); count != c.want {
			t.Errorf("Fillings(%v): %d, not %d", c.l, count, c.want)
		}
	}
}

// P2.7: all partitions with p cells less are tried.
func TestRimsIsTheDefinition(t *testing.T) {
	for _, l := range upTo(20) {
		for p := 1; p <= 10; p++ {
			var want [][]int
			if n := sum(l); n >= p {
				isLeft := func(rest []int) bool { return isRimHook(l, rest) }
				want = having(tables()[n-p], isLeft)
			}
			if all := mustRims(t, l, p); !same(all, want) {
				t.Errorf("Rims(%v, %d): %v, not %v", l, p, all, want)
			}
		}
	}
}

// P2.7
func TestRimsBelongToHooks(t *testing.T) {
	for _, l := range upTo(most) {
		for p := 1; p <= 10; p++ {
			if all := mustRims(t, l, p); !same(all, hookedRims(l, p)) {
				t.Errorf("Rims(%v, %d): %v, not %v", l, p, all, hookedRims(l, p))
			}
		}
	}
}

// P2.7
func TestRimsExamples(t *testing.T) {
	for _, c := range []struct {
		l    []int
		p    int
		want [][]int
	}{
		{[]int{3, 1}, 2, [][]int{{1, 1}}},
		{nil, 1, nil},
		{[]int{1}, 1, [][]int{{}}},
		{[]int{1}, 2, nil},
		{[]int{2, 1}, 2, nil},
		{[]int{2, 1}, 3, [][]int{{}}},
		{[]int{2, 1}, 1, [][]int{{1, 1}, {2}}},
		{[]int{2, 2}, 2, [][]int{{1, 1}, {2}}},
		{[]int{2, 2}, 3, [][]int{{1}}},
		{[]int{2, 2}, 4, nil},
		{[]int{10}, 10, [][]int{{}}},
		{[]int{5, 4, 3, 2, 1}, 5, [][]int{{3, 2, 2, 2, 1}, {5, 2, 1, 1, 1}, {5, 4, 1}}},
		{[]int{30}, 10, [][]int{{20}}},
	} {
		if all := mustRims(t, c.l, c.p); !same(all, c.want) {
			t.Errorf("Rims(%v, %d): %v, not %v", c.l, c.p, all, c.want)
		}
	}
}

// P2.7
func TestCoreLowersAllBeads(t *testing.T) {
	for _, l := range upTo(most) {
		for p := 1; p <= 10; p++ {
			if core := mustCore(t, l, p); !slices.Equal(core, abacusCore(l, p)) {
				t.Errorf("Core(%v, %d): %v, not %v", l, p, core, abacusCore(l, p))
			}
		}
	}
}

// P2.7: which rim hook is taken away first does not matter.
func TestCoreIsLeftOnAllWays(t *testing.T) {
	for _, l := range upTo(24) {
		for p := 2; p <= 10; p++ {
			first, last := l, l
			for range most {
				rims, others := mustRims(t, first, p), mustRims(t, last, p)
				if len(rims) == 0 || len(others) == 0 {
					break
				}
				first, last = rims[0], others[len(others)-1]
			}
			if core := mustCore(t, l, p); !slices.Equal(core, first) || !slices.Equal(core, last) {
				t.Errorf("Core(%v, %d): %v, not %v or %v", l, p, core, first, last)
			}
		}
	}
}

// P2.7
func TestCoreExamples(t *testing.T) {
	for _, c := range []struct {
		l    []int
		p    int
		want []int
	}{
		{[]int{3, 1}, 2, nil},
		{nil, 3, nil},
		{[]int{9, 7, 3}, 1, nil},
		{[]int{4, 3, 2, 1}, 2, []int{4, 3, 2, 1}},
		{[]int{5, 3, 1}, 3, []int{5, 3, 1}},
		{[]int{5, 3, 1}, 7, []int{2}},
		{[]int{5, 3, 1}, 2, []int{1}},
		{[]int{7}, 10, []int{7}},
		{[]int{10}, 10, nil},
		{[]int{2, 2}, 3, []int{1}},
		{[]int{3, 1}, 3, []int{3, 1}},
	} {
		if core := mustCore(t, c.l, c.p); !slices.Equal(core, c.want) {
			t.Errorf("Core(%v, %d): %v, not %v", c.l, c.p, core, c.want)
		}
	}
}

// P2.8
func TestPentagonalCountsBoth(t *testing.T) {
	for n := 0; n <= most; n++ {
		want := 0
		for _, l := range having(tables()[n], apart(1)) {
			if len(l)%2 == 0 {
				want++
			} else {
				want--
			}
		}
		if x, e := parts.Pentagonal(n); x != want || e != api.OK {
			t.Errorf("Pentagonal(%d): %d, error %d, not %d", n, x, e, want)
		}
	}
}
