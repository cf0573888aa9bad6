package tests

import (
	"fmt"
	"math"
	"slices"
	"sort"
	"testing"

	"loop.example/g03000/impl"
)

// Promise 12: the greatest common version does not depend on the order (chapter 12).

// allVersions returns a list with every version.
func allVersions() []int {
	return bytesOf(1, 2, 3, 4, 5, 6, 7, 8, 9)
}

// everyVersions are all lists of versions: each version is left out or not.
var everyVersions = func() [][]int {
	lists := [][]int{{}}
	for _, v := range allVersions() {
		for _, l := range lists {
			lists = append(lists, append(slices.Clone(l), v))
		}
	}
	return lists[1:]
}()

// isVersionList says by another way than the program's whether a list is one of
// versions: it goes through the versions, and takes away those that it meets.
func isVersionList(l []int) bool {
	rest := l
	for _, v := range allVersions() {
		if len(rest) > 0 && rest[0] == v {
			rest = rest[1:]
		}
	}
	return len(l) > 0 && len(rest) == 0
}

// bestOf looks for each version from the greatest one down.
func bestOf(a []int, b []int) int {
	for v := 9; v > 0 && isVersionList(a) && isVersionList(b); v-- {
		if slices.Contains(a, v) && slices.Contains(b, v) {
			return v
		}
	}
	return 0
}

// commonOf leaves out what is not common, where the program gathers what is.
func commonOf(a []int, b []int) []int {
	return slices.DeleteFunc(slices.Clone(a), func(n int) bool { return !slices.Contains(b, n) })
}

// withVersion puts the version at the end and sorts.
func withVersion(l []int, v int) ([]int, bool) {
	if !isVersionList(l) || !slices.Contains(allVersions(), v) || slices.Contains(l, v) {
		return l, false
	}
	out := append(slices.Clone(l), v)
	sort.Ints(out)
	return out, true
}

// withoutVersion joins what is before the version and what is behind it.
func withoutVersion(l []int, v int) ([]int, bool) {
	place := slices.Index(l, v)
	if !isVersionList(l) || place < 0 || len(l) < 2 {
		return l, false
	}
	return slices.Concat(l[:place], l[place+1:]), true
}

// spansOf counts the versions whose successor is not there, where the program asks for
// the predecessors.
func spansOf(l []int) int {
	count := 0
	for i, v := range l {
		if isVersionList(l) && (i == len(l)-1 || l[i+1] != v+1) {
			count++
		}
	}
	return count
}

func checkVersions(t *testing.T, name string, l []int, want bool) {
	t.Helper()
	if got := impl.AreVersions(l); got != want {
		t.Errorf("%s: AreVersions(%.300v) is %v", name, fmt.Sprint(l), got)
	}
}

// checkBest asks for both orders, which is the promise.
func checkBest(t *testing.T, name string, a []int, b []int, want int) {
	t.Helper()
	if got, back := impl.BestCommon(a, b), impl.BestCommon(b, a); got != want || back != want {
		t.Errorf("%s: BestCommon(%.300v, %.300v) is %d, and %d the other way round, not %d", name, fmt.Sprint(a), fmt.Sprint(b), got, back, want)
	}
}

func checkCommon(t *testing.T, name string, a []int, b []int, want []int) {
	t.Helper()
	if got := impl.CommonOf(a, b); !slices.Equal(got, want) {
		t.Errorf("%s: CommonOf(%.300v, %.300v) is %.300v, not %.300v", name, fmt.Sprint(a), fmt.Sprint(b), fmt.Sprint(got), fmt.Sprint(want))
	}
}

func checkAdd(t *testing.T, name string, l []int, v int, want []int, done bool) {
	t.Helper()
	if got, ok := impl.AddVersion(l, v); !slices.Equal(got, want) || ok != done {
		t.Errorf("%s: AddVersion(%.300v, %d) is %.300v, %v, not %.300v, %v", name, fmt.Sprint(l), v, fmt.Sprint(got), ok, fmt.Sprint(want), done)
	}
}

func checkDrop(t *testing.T, name string, l []int, v int, want []int, done bool) {
	t.Helper()
	if got, ok := impl.DropVersion(l, v); !slices.Equal(got, want) || ok != done {
		t.Errorf("%s: DropVersion(%.300v, %d) is %.300v, %v, not %.300v, %v", name, fmt.Sprint(l), v, fmt.Sprint(got), ok, fmt.Sprint(want), done)
	}
}

func checkSpans(t *testing.T, name string, l []int, want int) {
	t.Helper()
	if got := impl.SpansOf(l); got != want {
		t.Errorf("%s: SpansOf(%.300v) is %d, not %d", name, fmt.Sprint(l), got, want)
	}
}

// checkPair holds what the program says of two lists against what the test works out.
func checkPair(t *testing.T, name string, a []int, b []int) {
	t.Helper()
	checkBest(t, name, a, b, bestOf(a, b))
	checkCommon(t, name, a, b, commonOf(a, b))
	checkCommon(t, name, b, a, commonOf(b, a))
}

// checkList holds all that the program says of a list and some numbers against what the
// test works out.
func checkList(t *testing.T, name string, l []int, numbers []int) {
	t.Helper()
	checkVersions(t, name, l, isVersionList(l))
	checkSpans(t, name, l, spansOf(l))
	checkPair(t, name, l, l)
	checkPair(t, name, l, numbers)
	for _, v := range numbers {
		more, added := withVersion(l, v)
		checkAdd(t, name, l, v, more, added)
		less, dropped := withoutVersion(l, v)
		checkDrop(t, name, l, v, less, dropped)
		checkPair(t, name, l, bytesOf(v))
	}
}

// versionLimits returns numbers about the limits of a version, and ints beyond them.
func versionLimits() []int {
	return append(someNumbers(), 8, 9, 10, 11, 15, 16, 17, 31, 32, 33, 63, 64, 65, -9, -10, 1<<16+1, 1<<32+9, 1<<62+1)
}

// noVersions returns lists that are not of versions, each by something else.
func noVersions() [][]int {
	lists := [][]int{
		nil, {}, {0}, {-1}, {10}, {16}, {17}, {64}, {65}, {math.MinInt}, {math.MaxInt}, {1<<32 + 1}, {1<<16 + 1},
		{1, 1}, {9, 9}, {2, 1}, {9, 1}, {9, 8}, {0, 1}, {-1, 1}, {9, 10}, {1, 10}, {1, 2, 2}, {1, 1, 2}, {1, 3, 2}, {2, 1, 3}, {2, 3, 1},
		{1, 2, 1}, {3, 1, 2, 3}, {math.MinInt, 1, 2}, {1, 2, math.MaxInt}, {1, math.MaxInt, 2}, {1, math.MinInt, 2}, {math.MaxInt, math.MinInt},
		{0, 0}, {10, 10}, {-1, -1}, {1, 2, 3, 4, 5, 6, 7, 8, 9, 10}, {0, 1, 2, 3, 4, 5, 6, 7, 8, 9}, {9, 8, 7, 6, 5, 4, 3, 2, 1},
		{1, 2, 3, 4, 5, 6, 7, 8, 8}, {1, 1, 2, 3, 4, 5, 6, 7, 8, 9}, {1, 2, 3, 4, 5, 6, 7, 8, 9, 9}, make([]int, 9), make([]int, 100),
	}
	// Two neighbours exchanged, a number twice, and a number that is none, at each place.
	for i := range 9 {
		swapped, twice, wrong := allVersions(), allVersions(), allVersions()
		k := (i + 1) % 9
		swapped[i], swapped[k] = swapped[k], swapped[i]
		twice[i] = twice[k]
		wrong[i] = bytesOf(0, 10, -1)[i%3]
		lists = append(lists, swapped, twice, wrong)
	}
	return lists
}

func TestVersionLimits(t *testing.T) {
	if impl.MaxVersion != 9 {
		t.Errorf("MaxVersion is %d, not 9", impl.MaxVersion)
	}
}

func TestAreVersions(t *testing.T) {
	cases := []struct {
		name string
		l    []int
		want bool
	}{
		{"nil", nil, false},
		{"empty", []int{}, false},
		{"empty before spare capacity", bytesOf(1, 2)[:0], false},
		{"0", bytesOf(0), false},
		{"1", bytesOf(1), true},
		{"5", bytesOf(5), true},
		{"MaxVersion", bytesOf(9), true},
		{"MaxVersion + 1", bytesOf(10), false},
		{"-1", bytesOf(-1), false},
		{"the least int", bytesOf(math.MinInt), false},
		{"the greatest int", bytesOf(math.MaxInt), false},
		{"1 modulo 2^32", bytesOf(1<<32 + 1), false},
		{"two", bytesOf(1, 2), true},
		{"1 and MaxVersion", bytesOf(1, 9), true},
		{"with gaps", bytesOf(2, 5, 8), true},
		{"all", allVersions(), true},
		{"all, and MaxVersion + 1", append(allVersions(), 10), false},
		{"0, and all", append(bytesOf(0), allVersions()...), false},
		{"all, and MaxVersion + 1 in the spare capacity", append(allVersions(), 10)[:9], true},
		{"0 at the front", bytesOf(0, 1, 2), false},
		{"-1 at the front", bytesOf(-1, 1), false},
		{"the least int at the front", bytesOf(math.MinInt, 1), false},
		{"MaxVersion + 1 at the end", bytesOf(8, 9, 10), false},
		{"the greatest int at the end", bytesOf(1, math.MaxInt), false},
		{"falling", bytesOf(2, 1), false},
		{"falling from MaxVersion to 1", bytesOf(9, 1), false},
		{"falling at the end", bytesOf(1, 2, 4, 3), false},
		{"falling between", bytesOf(1, 3, 2, 4), false},
		{"falling below the one before", bytesOf(2, 3, 1), false},
		{"1 twice", bytesOf(1, 1), false},
		{"MaxVersion twice", bytesOf(9, 9), false},
		{"a number twice at the front", bytesOf(1, 1, 2), false},
		{"a number twice at the end", bytesOf(1, 2, 2), false},
		{"a number twice, not in a row", bytesOf(1, 2, 1), false},
	}
	for _, c := range cases {
		checkVersions(t, c.name, c.l, c.want)
		if isVersionList(c.l) != c.want {
			t.Errorf("%s: the test's own answer is %v", c.name, !c.want)
		}
		checkList(t, c.name, c.l, versionLimits())
	}
	for _, l := range everyVersions {
		checkVersions(t, "a list of versions", l, true)
	}
	for _, l := range noVersions() {
		checkVersions(t, "no list of versions", l, false)
	}
}

func TestBestCommon(t *testing.T) {
	cases := []struct {
		name string
		a, b []int
		want int
	}{
		{"the greatest of several", bytesOf(1, 2, 4), bytesOf(2, 3, 4), 4},
		{"neither is the greatest of its list", bytesOf(1, 2, 5), bytesOf(1, 2, 9), 2},
		{"the greatest of one list only", bytesOf(1, 2), bytesOf(2, 9), 2},
		{"the least of both", bytesOf(1, 2, 3), bytesOf(1, 4, 5), 1},
		{"one version and itself", bytesOf(1), bytesOf(1), 1},
		{"MaxVersion and itself", bytesOf(9), bytesOf(9), 9},
		{"one version and another one", bytesOf(1), bytesOf(2), 0},
		{"1 and MaxVersion", bytesOf(1), bytesOf(9), 0},
		{"one version among all", bytesOf(5), allVersions(), 5},
		{"one version that is not among the others", bytesOf(5), bytesOf(1, 2, 3, 4, 6, 7, 8, 9), 0},
		{"all and all", allVersions(), allVersions(), 9},
		{"all and all but MaxVersion", allVersions(), allVersions()[:8], 8},
		{"no common version, in turn", bytesOf(1, 3, 5, 7, 9), bytesOf(2, 4, 6, 8), 0},
		{"no common version, one list above the other", bytesOf(1, 2, 3, 4), bytesOf(5, 6, 7, 8, 9), 0},
		{"a common one in the spare capacity", bytesOf(1, 2)[:1], bytesOf(2, 3), 0},
		{"a greater common one in the spare capacity", bytesOf(1, 2)[:1], bytesOf(1, 2)[:1], 1},
		{"nil", nil, bytesOf(1), 0},
		{"empty", []int{}, bytesOf(1), 0},
		{"nil and empty", nil, []int{}, 0},
		{"nil and nil", nil, nil, 0},
		{"empty before spare capacity", bytesOf(1)[:0], bytesOf(1), 0},
		{"falling", bytesOf(2, 1), bytesOf(1), 0},
		{"falling and itself", bytesOf(2, 1), bytesOf(2, 1), 0},
		{"falling behind the common one", bytesOf(5, 3), bytesOf(5), 0},
		{"a number twice", bytesOf(1, 1), bytesOf(1), 0},
		{"a number twice in both", bytesOf(1, 1), bytesOf(1, 1), 0},
		{"a number twice behind the common one", bytesOf(1, 2, 2), bytesOf(1), 0},
		{"MaxVersion + 1 in both", bytesOf(1, 10), bytesOf(1, 10), 0},
		{"MaxVersion + 1 alone", bytesOf(10), bytesOf(10), 0},
		{"MaxVersion + 1 in one", bytesOf(1, 10), bytesOf(1), 0},
		{"0 in both", bytesOf(0, 1), bytesOf(0, 1), 0},
		{"0 alone", bytesOf(0), bytesOf(0), 0},
		{"0 in one", bytesOf(0, 1), bytesOf(1), 0},
		{"-1 in both", bytesOf(-1, 1), bytesOf(-1, 1), 0},
		{"-1 alone", bytesOf(-1), bytesOf(-1), 0},
		{"the greatest int in both", bytesOf(1, math.MaxInt), bytesOf(1, math.MaxInt), 0},
		{"the least int in both", bytesOf(math.MinInt, 1), bytesOf(math.MinInt, 1), 0},
		{"the least int alone", bytesOf(math.MinInt), bytesOf(math.MinInt), 0},
	}
	for _, c := range cases {
		checkBest(t, c.name, c.a, c.b, c.want)
		if got := bestOf(c.a, c.b); got != c.want {
			t.Errorf("%s: the test's own answer is %d", c.name, got)
		}
		checkPair(t, c.name, c.a, c.b)
	}
}

// The promise for every two lists of versions.
func TestEveryTwoListsOfVersions(t *testing.T) {
	if len(everyVersions) != 511 {
		t.Fatalf("there are %d lists of versions, not 511", len(everyVersions))
	}
	counts := map[int]int{}
	for _, a := range everyVersions {
		for _, b := range everyVersions {
			best := impl.BestCommon(a, b)
			counts[best]++
			if back := impl.BestCommon(b, a); best != back {
				t.Fatalf("BestCommon(%v, %v) is %d, and %d the other way round", a, b, best, back)
			}
			common := impl.CommonOf(a, b)
			if want := commonOf(a, b); best != bestOf(a, b) || !slices.Equal(common, want) {
				t.Fatalf("of %v and %v, the best one is %d and the common ones are %v, not %v", a, b, best, common, want)
			}
			// The best one is the last one in both, from either side.
			last := append(bytesOf(0), common...)[len(common)]
			if best != last || !slices.Equal(common, impl.CommonOf(b, a)) || impl.AreVersions(common) != (best > 0) {
				t.Fatalf("of %v and %v, the best one is %d and the common ones are %v", a, b, best, common)
			}
		}
	}
	// The best one is in both lists. Each lesser one is in none, one or both of them, in
	// four ways, and each greater one in three, since it is not in both.
	for v := 1; v <= 9; v++ {
		if want := power(4, v-1) * power(3, 9-v); counts[v] != want {
			t.Errorf("%d is the best one of %d pairs, not %d", v, counts[v], want)
		}
	}
	// Without a best one, none is in both. The pairs with an empty list are not there.
	if want := power(3, 9) - 2*power(2, 9) + 1; counts[0] != want {
		t.Errorf("there is no best one of %d pairs, not %d", counts[0], want)
	}
}

func power(base int, exponent int) int {
	product := 1
	for range exponent {
		product *= base
	}
	return product
}

func TestCommonOf(t *testing.T) {
	wrong := bytesOf(5, -1, 5, 10, math.MinInt, 0, math.MaxInt, 3)
	cases := []struct {
		name string
		a, b []int
		want []int
	}{
		{"some", bytesOf(1, 2, 4), bytesOf(2, 3, 4), bytesOf(2, 4)},
		{"all", allVersions(), allVersions(), allVersions()},
		{"all and one", allVersions(), bytesOf(9), bytesOf(9)},
		{"one and all", bytesOf(1), allVersions(), bytesOf(1)},
		{"one and itself", bytesOf(9), bytesOf(9), bytesOf(9)},
		{"one and another one", bytesOf(1), bytesOf(2), nil},
		{"none", bytesOf(1, 3, 5, 7, 9), bytesOf(2, 4, 6, 8), nil},
		{"nil and nil", nil, nil, nil},
		{"nil", nil, bytesOf(1), nil},
		{"nil behind", bytesOf(1), nil, nil},
		{"empty", []int{}, allVersions(), nil},
		{"empty behind", allVersions(), []int{}, nil},
		{"0 and an empty list", bytesOf(0, 0), []int{}, nil},
		{"the spare capacity", bytesOf(1, 2)[:1], bytesOf(2), nil},
		{"the spare capacity behind", bytesOf(2), bytesOf(1, 2)[:1], nil},
		{"empty before spare capacity", bytesOf(1)[:0], bytesOf(1), nil},

		{"a falls", bytesOf(4, 2, 1), bytesOf(1, 4), bytesOf(4, 1)},
		{"b falls", bytesOf(1, 2, 4), bytesOf(4, 1), bytesOf(1, 4)},
		{"both fall", bytesOf(4, 2, 1), bytesOf(2, 1), bytesOf(2, 1)},
		{"a has a number twice", bytesOf(2, 1, 2), bytesOf(2), bytesOf(2, 2)},
		{"b has a number twice", bytesOf(1, 2), bytesOf(2, 2), bytesOf(2)},
		{"both have a number twice", bytesOf(2, 2), bytesOf(2, 2), bytesOf(2, 2)},
		{"a has a number often", slices.Repeat(bytesOf(7), 30), bytesOf(7), slices.Repeat(bytesOf(7), 30)},
		{"0 in both", bytesOf(0, 1), bytesOf(0), bytesOf(0)},
		{"0 in a", bytesOf(0, 1), bytesOf(1), bytesOf(1)},
		{"0 in b", bytesOf(1), bytesOf(0, 1), bytesOf(1)},
		{"MaxVersion + 1 in both", bytesOf(9, 10), bytesOf(10, 9), bytesOf(9, 10)},
		{"MaxVersion + 1 in both, rising", bytesOf(9, 10), bytesOf(9, 10), bytesOf(9, 10)},
		{"MaxVersion + 1 in a", bytesOf(9, 10), bytesOf(9), bytesOf(9)},
		{"-1 in both", bytesOf(-1), bytesOf(-1), bytesOf(-1)},
		{"-1 in a", bytesOf(-1, 1), bytesOf(1), bytesOf(1)},
		{"any ints and themselves", wrong, wrong, wrong},
		{"any ints and the least and the greatest", wrong, bytesOf(math.MaxInt, math.MinInt), bytesOf(math.MinInt, math.MaxInt)},
		{"any ints and versions", wrong, bytesOf(3, 5), bytesOf(5, 5, 3)},
		{"versions and any ints", allVersions(), wrong, bytesOf(3, 5)},
		{"numbers that are versions modulo a power of two", bytesOf(17, 33, 65, 1<<16+1, 1<<32+1, -63, 1), bytesOf(1), bytesOf(1)},
		{"versions and numbers that are them modulo a power of two", bytesOf(1, 2), bytesOf(17, 34, 65, 1<<16+2, 1<<32+1, -63), nil},
		{"64 in both", bytesOf(64, 65), bytesOf(65), bytesOf(65)},
	}
	for _, c := range cases {
		checkCommon(t, c.name, c.a, c.b, c.want)
		if got := commonOf(c.a, c.b); !slices.Equal(got, c.want) {
			t.Errorf("%s: the test's own answer is %v", c.name, got)
		}
		checkPair(t, c.name, c.a, c.b)
	}
}

func TestAddVersion(t *testing.T) {
	cases := []struct {
		name string
		l    []int
		v    int
		want []int
		done bool
	}{
		{"between", bytesOf(1, 4), 2, bytesOf(1, 2, 4), true},
		{"at the front", bytesOf(2, 4), 1, bytesOf(1, 2, 4), true},
		{"behind the others", bytesOf(1, 4), 9, bytesOf(1, 4, 9), true},
		{"below one", bytesOf(5), 4, bytesOf(4, 5), true},
		{"far below one", bytesOf(5), 1, bytesOf(1, 5), true},
		{"above one", bytesOf(5), 6, bytesOf(5, 6), true},
		{"far above one", bytesOf(5), 9, bytesOf(5, 9), true},
		{"MaxVersion above 1", bytesOf(1), 9, bytesOf(1, 9), true},
		{"1 below MaxVersion", bytesOf(9), 1, bytesOf(1, 9), true},
		{"the last one that is missing", bytesOf(1, 2, 3, 4, 6, 7, 8, 9), 5, allVersions(), true},
		{"one that is in the spare capacity", bytesOf(1, 2)[:1], 2, bytesOf(1, 2), true},
		{"another one than in the spare capacity", bytesOf(1, 2)[:1], 5, bytesOf(1, 5), true},

		{"there already", bytesOf(1, 4), 4, bytesOf(1, 4), false},
		{"there already, at the front", bytesOf(1, 4), 1, bytesOf(1, 4), false},
		{"there already, between", bytesOf(1, 4, 9), 4, bytesOf(1, 4, 9), false},
		{"there already, alone", bytesOf(4), 4, bytesOf(4), false},
		{"all are there", allVersions(), 9, allVersions(), false},
		{"all are there, and MaxVersion + 1", allVersions(), 10, allVersions(), false},
		{"0", bytesOf(1, 4), 0, bytesOf(1, 4), false},
		{"MaxVersion + 1", bytesOf(1, 4), 10, bytesOf(1, 4), false},
		{"-1", bytesOf(1, 4), -1, bytesOf(1, 4), false},
		{"the least int", bytesOf(1, 4), math.MinInt, bytesOf(1, 4), false},
		{"the greatest int", bytesOf(1, 4), math.MaxInt, bytesOf(1, 4), false},
		{"2 modulo 2^32", bytesOf(1, 4), 1<<32 + 2, bytesOf(1, 4), false},
		{"to nil", nil, 1, nil, false},
		{"to an empty list", []int{}, 1, nil, false},
		{"to an empty list before spare capacity", bytesOf(1, 2)[:0], 3, nil, false},
		{"to a falling list", bytesOf(4, 1), 2, bytesOf(4, 1), false},
		{"to a list with a number twice", bytesOf(1, 1), 2, bytesOf(1, 1), false},
		{"to a list with 0", bytesOf(0, 1), 2, bytesOf(0, 1), false},
		{"to 0 alone", bytesOf(0), 1, bytesOf(0), false},
		{"to a list with MaxVersion + 1", bytesOf(1, 10), 2, bytesOf(1, 10), false},
		{"to a list with -1", bytesOf(-1, 1), 2, bytesOf(-1, 1), false},
		{"to the least and the greatest int", bytesOf(math.MinInt, math.MaxInt), 5, bytesOf(math.MinInt, math.MaxInt), false},
		{"0 to 0", bytesOf(0), 0, bytesOf(0), false},
	}
	for _, c := range cases {
		checkAdd(t, c.name, c.l, c.v, c.want, c.done)
		if got, ok := withVersion(c.l, c.v); !slices.Equal(got, c.want) || ok != c.done {
			t.Errorf("%s: the test's own answer is %v, %v", c.name, got, ok)
		}
	}
}

func TestDropVersion(t *testing.T) {
	cases := []struct {
		name string
		l    []int
		v    int
		want []int
		done bool
	}{
		{"at the front", bytesOf(1, 4), 1, bytesOf(4), true},
		{"behind the others", bytesOf(1, 4), 4, bytesOf(1), true},
		{"between", bytesOf(1, 4, 9), 4, bytesOf(1, 9), true},
		{"1 of two", bytesOf(1, 9), 1, bytesOf(9), true},
		{"MaxVersion of two", bytesOf(1, 9), 9, bytesOf(1), true},
		{"between all", allVersions(), 5, bytesOf(1, 2, 3, 4, 6, 7, 8, 9), true},
		{"the first of all", allVersions(), 1, bytesOf(2, 3, 4, 5, 6, 7, 8, 9), true},
		{"the last of all", allVersions(), 9, bytesOf(1, 2, 3, 4, 5, 6, 7, 8), true},

		{"the only one", bytesOf(4), 4, bytesOf(4), false},
		{"the only one, 1", bytesOf(1), 1, bytesOf(1), false},
		{"the only one, MaxVersion", bytesOf(9), 9, bytesOf(9), false},
		{"the only one before spare capacity", bytesOf(4, 5)[:1], 4, bytesOf(4), false},
		{"one that is not there, alone", bytesOf(4), 5, bytesOf(4), false},
		{"one that is not there, at the front", bytesOf(2, 4), 1, bytesOf(2, 4), false},
		{"one that is not there, between", bytesOf(2, 4), 3, bytesOf(2, 4), false},
		{"one that is not there, behind", bytesOf(2, 4), 9, bytesOf(2, 4), false},
		{"one in the spare capacity", bytesOf(1, 2, 3)[:2], 3, bytesOf(1, 2), false},
		{"0", bytesOf(1, 4), 0, bytesOf(1, 4), false},
		{"MaxVersion + 1", bytesOf(1, 4), 10, bytesOf(1, 4), false},
		{"MaxVersion + 1 from all", allVersions(), 10, allVersions(), false},
		{"-1", bytesOf(1, 4), -1, bytesOf(1, 4), false},
		{"the least int", bytesOf(1, 4), math.MinInt, bytesOf(1, 4), false},
		{"the greatest int", bytesOf(1, 4), math.MaxInt, bytesOf(1, 4), false},
		{"1 modulo 2^32", bytesOf(1, 4), 1<<32 + 1, bytesOf(1, 4), false},
		{"from nil", nil, 1, nil, false},
		{"from an empty list", []int{}, 1, nil, false},
		{"from an empty list before spare capacity", bytesOf(1, 2)[:0], 1, nil, false},
		{"from a falling list", bytesOf(4, 1), 4, bytesOf(4, 1), false},
		{"from a list with the number twice", bytesOf(1, 1), 1, bytesOf(1, 1), false},
		{"from a list with another number twice", bytesOf(1, 2, 2), 1, bytesOf(1, 2, 2), false},
		{"from a list with 0", bytesOf(0, 1, 2), 1, bytesOf(0, 1, 2), false},
		{"0 from a list with 0", bytesOf(0, 1, 2), 0, bytesOf(0, 1, 2), false},
		{"MaxVersion + 1 from a list with it", bytesOf(1, 2, 10), 10, bytesOf(1, 2, 10), false},
		{"-1 from a list with it", bytesOf(-1, 1, 2), -1, bytesOf(-1, 1, 2), false},
		{"the least int from a list with it", bytesOf(math.MinInt, 1, 2), math.MinInt, bytesOf(math.MinInt, 1, 2), false},
		{"the greatest int from a list with it", bytesOf(1, 2, math.MaxInt), math.MaxInt, bytesOf(1, 2, math.MaxInt), false},
	}
	for _, c := range cases {
		checkDrop(t, c.name, c.l, c.v, c.want, c.done)
		if got, ok := withoutVersion(c.l, c.v); !slices.Equal(got, c.want) || ok != c.done {
			t.Errorf("%s: the test's own answer is %v, %v", c.name, got, ok)
		}
	}
}

// A version that is added and dropped again leaves the list as it was, and so does one
// that is dropped and added again.
func TestVersionsAddedAndDropped(t *testing.T) {
	added, dropped := 0, 0
	for _, l := range everyVersions {
		for v := -2; v <= 12; v++ {
			if more, ok := impl.AddVersion(l, v); ok {
				added++
				checkVersions(t, "with one more", more, true)
				if len(more) != len(l)+1 || !slices.Contains(more, v) || !slices.Equal(impl.CommonOf(l, more), l) {
					t.Errorf("AddVersion(%v, %d) is %v", l, v, more)
				}
				checkDrop(t, "added and dropped", more, v, l, true)
				checkAdd(t, "added twice", more, v, more, false)
			}
			if less, ok := impl.DropVersion(l, v); ok {
				dropped++
				checkVersions(t, "with one less", less, true)
				if len(less) != len(l)-1 || slices.Contains(less, v) || !slices.Equal(impl.CommonOf(l, less), less) {
					t.Errorf("DropVersion(%v, %d) is %v", l, v, less)
				}
				checkAdd(t, "dropped and added", less, v, l, true)
				checkDrop(t, "dropped twice", less, v, less, false)
			}
		}
	}
	// Half of the 512 choices have a version and half do not. The empty choice takes
	// none, and from the choice of one version it cannot be taken.
	if want := 9*256 - 9; added != want || dropped != want {
		t.Errorf("%d versions are added and %d are dropped, not %d", added, dropped, want)
	}
}

// From one version the list grows up to all, in any order, and from all it falls down to
// one.
func TestVersionsUpToAllAndDownToOne(t *testing.T) {
	for seed := range 300 {
		order := chance(seed).Perm(9)
		l := bytesOf(order[0] + 1)
		for i, n := range order[1:] {
			want := slices.DeleteFunc(allVersions(), func(v int) bool { return !slices.Contains(order[:i+2], v-1) })
			checkAdd(t, "up", l, n+1, want, true)
			l, _ = impl.AddVersion(l, n+1)
		}
		for i, n := range order[:8] {
			want := slices.DeleteFunc(allVersions(), func(v int) bool { return slices.Contains(order[:i+1], v-1) })
			checkDrop(t, "down", l, n+1, want, true)
			l, _ = impl.DropVersion(l, n+1)
		}
		checkDrop(t, "the last one", l, order[8]+1, bytesOf(order[8]+1), false)
	}
}

func TestSpansOf(t *testing.T) {
	cases := []struct {
		name string
		l    []int
		want int
	}{
		{"one", bytesOf(3), 1},
		{"1", bytesOf(1), 1},
		{"MaxVersion", bytesOf(9), 1},
		{"two in a row", bytesOf(1, 2), 1},
		{"the last two", bytesOf(8, 9), 1},
		{"two with a gap", bytesOf(1, 3), 2},
		{"two with a wide gap", bytesOf(1, 9), 2},
		{"all", allVersions(), 1},
		{"all but 1", allVersions()[1:], 1},
		{"all but MaxVersion", allVersions()[:8], 1},
		{"three runs", bytesOf(1, 2, 4, 5, 9), 3},
		{"a run between two", bytesOf(1, 4, 5, 6, 9), 3},
		{"nothing but gaps", bytesOf(1, 3, 5, 7, 9), 5},
		{"nothing but gaps, from 2", bytesOf(2, 4, 6, 8), 4},
		{"wide gaps", bytesOf(1, 5, 9), 3},
		{"a run in the spare capacity", bytesOf(1, 3)[:1], 1},
		{"nil", nil, 0},
		{"empty", []int{}, 0},
		{"empty before spare capacity", bytesOf(1)[:0], 0},
		{"0", bytesOf(0), 0},
		{"0 before 1", bytesOf(0, 1), 0},
		{"MaxVersion + 1", bytesOf(10), 0},
		{"MaxVersion + 1 behind MaxVersion", bytesOf(9, 10), 0},
		{"falling", bytesOf(2, 1), 0},
		{"twice", bytesOf(1, 1), 0},
		{"twice at the end", bytesOf(1, 3, 3), 0},
		{"-1", bytesOf(-1, 1), 0},
		{"the least int", bytesOf(math.MinInt, 1), 0},
		{"the greatest int", bytesOf(1, math.MaxInt), 0},
		{"the greatest int and its successor", bytesOf(math.MaxInt, math.MinInt), 0},
	}
	for _, c := range cases {
		checkSpans(t, c.name, c.l, c.want)
		if got := spansOf(c.l); got != c.want {
			t.Errorf("%s: the test's own answer is %d", c.name, got)
		}
	}
	for gap := 2; gap <= 8; gap++ {
		l, _ := withoutVersion(allVersions(), gap)
		checkSpans(t, "a gap at one place", l, 2)
	}
	// Of n versions, k runs are n-1 over k-1 times 9-n+1 over k lists.
	counts := map[int]int{}
	for _, l := range everyVersions {
		checkSpans(t, "a list of versions", l, spansOf(l))
		counts[impl.SpansOf(l)]++
	}
	if got, want := fmt.Sprint(counts), "map[1:45 2:210 3:210 4:45 5:1]"; got != want {
		t.Errorf("the runs are %v, not %v", got, want)
	}
}

func TestVersionLists(t *testing.T) {
	for _, l := range slices.Concat(everyVersions, noVersions()) {
		checkList(t, "a list", l, versionLimits())
	}
	for _, a := range noVersions() {
		for _, b := range everyVersions {
			checkPair(t, "a list that is not of versions", a, b)
		}
		for _, b := range noVersions() {
			checkPair(t, "two lists that are not of versions", a, b)
		}
	}
}

// Every list of a few numbers, so that each kind of fault stands at each place.
func TestEveryShortListOfVersions(t *testing.T) {
	alphabet := bytesOf(math.MinInt, -1, 0, 1, 2, 3, 8, 9, 10, math.MaxInt)
	valid := 0
	eachList(alphabet, 4, func(b []int) {
		if isVersionList(b) {
			valid++
		}
		checkList(t, "a short list", b, alphabet)
	})
	// 1, 2, 3, 8 and 9 are versions, and each choice of 1 to 4 of them ascends once.
	if valid != 5+10+10+5 {
		t.Errorf("%d lists are valid", valid)
	}
	var lists [][]int
	eachList(bytesOf(-1, 0, 1, 2, 9, 10), 3, func(b []int) { lists = append(lists, b) })
	for _, a := range lists {
		for _, b := range lists {
			checkPair(t, "two short lists", a, b)
		}
	}
}

func TestVersionsWithAnyIntEverywhere(t *testing.T) {
	for _, n := range versionLimits() {
		for size := range 12 {
			checkList(t, "one number", slices.Repeat(bytesOf(n), size), versionLimits())
		}
		for i := range 9 {
			l := allVersions()
			l[i] = n
			checkList(t, "any number among versions", l, versionLimits())
			checkPair(t, "any number among versions", l, allVersions())
			checkList(t, "any number between versions", slices.Insert(allVersions(), i, n), versionLimits())
			checkList(t, "any number between few versions", slices.Insert(bytesOf(2, 4, 8), i%4, n), versionLimits())
		}
	}
}

// Lists by chance, of many lengths and with many repeated numbers.
func TestVersionsByChance(t *testing.T) {
	for seed := range 3000 {
		pick := chance(seed)
		numbers := func() []int {
			l := make([]int, pick.IntN(30))
			for i := range l {
				l[i] = pick.IntN(24) - 6
			}
			return l
		}
		a, b := numbers(), numbers()
		checkPair(t, "by chance", a, b)
		checkPair(t, "by chance", a, everyVersions[pick.IntN(len(everyVersions))])
		checkList(t, "by chance", a, b)
		sort.Ints(a)
		checkList(t, "by chance, in order", slices.Compact(a), b)
	}
}

func TestManyVersions(t *testing.T) {
	const many = 100000
	rising, falling := []int{}, []int{}
	for i := range many {
		rising, falling = append(rising, i), append(falling, many-i)
	}
	same := slices.Repeat(bytesOf(1), many)
	for _, l := range [][]int{rising, rising[1:], falling, same} {
		checkVersions(t, "many", l, false)
		checkSpans(t, "many", l, 0)
		checkBest(t, "many", l, bytesOf(1), 0)
		checkBest(t, "many", l, l, 0)
		checkAdd(t, "many", l, 5, l, false)
		checkDrop(t, "many", l, 1, l, false)
		checkCommon(t, "many", l, l, l)
		checkCommon(t, "many", bytesOf(9, 1, 0), l, commonOf(bytesOf(9, 1, 0), l))
	}
	checkCommon(t, "many", rising, falling, rising[1:])
	checkCommon(t, "many", falling, rising, falling[1:])
	checkCommon(t, "many", same, bytesOf(1, 2), same)
	checkCommon(t, "many", same, rising, same)
	checkCommon(t, "many", rising, same, bytesOf(1))
}

func TestVersionsKeepArguments(t *testing.T) {
	for _, l := range slices.Concat(everyVersions, noVersions()) {
		a, b := markedBytes(l), markedBytes(append(slices.Clone(l), 9, 3))
		before, otherBefore := slices.Clone(whole(a)), slices.Clone(whole(b))
		impl.AreVersions(a)
		impl.SpansOf(a)
		for _, x := range [][]int{a, b} {
			for _, y := range [][]int{a, b, nil} {
				impl.BestCommon(x, y)
				impl.BestCommon(y, x)
				impl.CommonOf(x, y)
				impl.CommonOf(y, x)
			}
		}
		for _, v := range append(versionLimits(), 777) {
			impl.AddVersion(a, v)
			impl.DropVersion(a, v)
		}
		if !slices.Equal(whole(a), before) || !slices.Equal(whole(b), otherBefore) {
			t.Errorf("the arguments are changed to %v, %v", whole(a), whole(b))
		}
	}
}

func TestVersionsShareNoMemory(t *testing.T) {
	for _, l := range slices.Concat(everyVersions, noVersions()) {
		l := markedBytes(l)
		all := [][]int{whole(l)}
		for range 2 {
			// A number that is there, numbers that may be added, and numbers that are none.
			for _, v := range append(bytesOf(1, 5, 9, 0, 10, -1), l[:min(len(l), 2)]...) {
				more, _ := impl.AddVersion(l, v)
				less, _ := impl.DropVersion(l, v)
				all = append(all, whole(more), whole(less))
			}
			all = append(all, whole(impl.CommonOf(l, l)), whole(impl.CommonOf(l, nil)), whole(impl.CommonOf(nil, l)), whole(impl.CommonOf(l, bytesOf(1, 9))))
		}
		checkApart(t, fmt.Sprint(l), all)
	}
}

// Where the answer is false, the copy is the caller's own too, also an empty one.
func TestCopiesOfVersions(t *testing.T) {
	for _, l := range append(noVersions(), bytesOf(4), allVersions()) {
		l := markedBytes(l)
		before := slices.Clone(whole(l))
		for range 2 {
			more, added := impl.AddVersion(l, 4)
			less, dropped := impl.DropVersion(l, 10)
			alone, last := impl.DropVersion(l[:min(len(l), 1)], 4)
			if added || dropped || last || !slices.Equal(more, l) || !slices.Equal(less, l) || !slices.Equal(alone, l[:min(len(l), 1)]) {
				t.Errorf("of %v, the copies are %v, %v, %v", l, more, less, alone)
			}
			for _, out := range [][]int{whole(more), whole(less), whole(alone), whole(impl.CommonOf(l[:0], l))} {
				for i := range out {
					out[i] = -7
				}
			}
		}
		if !slices.Equal(whole(l), before) {
			t.Errorf("a copy writes into the argument: %v", whole(l))
		}
	}
}
