package tests

import (
	"fmt"
	"math"
	"math/rand/v2"
	"slices"
	"testing"

	"loop.example/g03000/impl"
)

// Promise 19: boxes add nothing (chapter 19).

func box(limit int, drops []int, strips []int, lists bool) impl.Box {
	return impl.Box{Limit: limit, Drops: drops, Strips: strips, Lists: lists}
}

func limiting(limit int) impl.Box {
	return impl.Box{Limit: limit}
}

func dropping(tags ...int) impl.Box {
	return impl.Box{Drops: tags}
}

func stripping(tags ...int) impl.Box {
	return impl.Box{Strips: tags}
}

// listing returns a box that knows the tags 1, 2 and 3 and those that it takes away.
func listing(strips ...int) impl.Box {
	return impl.Box{Strips: strips, Lists: true}
}

func pathOf(boxes ...impl.Box) []impl.Box {
	return append([]impl.Box{}, boxes...)
}

// boxText is the same for equal boxes alone: it has brackets about each list.
func boxText(b impl.Box) string {
	return fmt.Sprint(b)
}

// isBoxOf strikes out the tags that there are: nothing may be left.
func isBoxOf(b impl.Box) bool {
	tags := slices.Concat(b.Drops, b.Strips)
	for tag := range 256 {
		tags = slices.DeleteFunc(tags, func(n int) bool { return n == tag })
	}
	return (b.Limit == 0 || slices.Contains(allVersions(), b.Limit)) && len(b.Drops) < 7 && len(b.Strips) < 7 && len(tags) == 0
}

// leavesBox takes away what the box strips first, and asks what is left with the numbers
// 1, 2 and 3 taken away too, where the program asks for each Tag.
func leavesBox(b impl.Box, h impl.Hello) (impl.Hello, bool) {
	if !isBoxOf(b) || !isHelloOf(h) {
		return impl.Hello{}, false
	}
	for v := b.Limit + 1; b.Limit > 0 && v <= 9; v++ {
		if slices.Contains(h.Versions, v) {
			return impl.Hello{}, false
		}
	}
	for _, tag := range b.Drops {
		if tagIsIn(h.Exts, tag) {
			return impl.Hello{}, false
		}
	}
	left := h.Exts
	for _, tag := range b.Strips {
		left = lacking(left, tag)
	}
	if b.Lists && len(lacking(lacking(lacking(left, 1), 2), 3)) > 0 {
		return impl.Hello{}, false
	}
	return hello(h.Versions, left...), true
}

// leavesPath goes back from the last box to the first one.
func leavesPath(path []impl.Box, h impl.Hello) (impl.Hello, bool) {
	last := len(path) - 1
	if last > 3 || !isHelloOf(h) {
		return impl.Hello{}, false
	}
	if last < 0 {
		return h, true
	}
	left, ok := leavesPath(path[:last], h)
	if !ok {
		return impl.Hello{}, false
	}
	return leavesBox(path[last], left)
}

func checkLeft(t *testing.T, name string, got impl.Hello, ok bool, want impl.Hello, done bool) {
	t.Helper()
	if ok != done || helloText(got) != helloText(want) {
		t.Errorf("%s: what leaves is %.200s, %v, not %.200s, %v", name, helloText(got), ok, helloText(want), done)
	}
	if ok {
		checkIsHello(t, name, got, true)
		checkEqualHellos(t, name, got, want, true)
	}
}

// checkAddsNothing is the promise: the versions are those that were sent, and so are the
// extensions, in their order and with their bodies, without those that a box strips.
func checkAddsNothing(t *testing.T, name string, path []impl.Box, h impl.Hello, got impl.Hello) {
	t.Helper()
	var strips []int
	for _, b := range path {
		strips = append(strips, b.Strips...)
	}
	if !slices.Equal(got.Versions, h.Versions) {
		t.Errorf("%s: the versions %v become %v", name, h.Versions, got.Versions)
	}
	rest := got.Exts
	for _, x := range h.Exts {
		if slices.Contains(strips, x.Tag) {
			continue
		}
		if len(rest) == 0 || rest[0].Tag != x.Tag || !slices.Equal(rest[0].Body, x.Body) {
			t.Errorf("%s: %v of %v is not where it belongs in %v", name, x, h.Exts, got.Exts)
			return
		}
		rest = rest[1:]
	}
	if len(rest) > 0 {
		t.Errorf("%s: %v leaves, which was not sent or is stripped by %v", name, rest, strips)
	}
}

// checkPassBox holds what leaves a box against a hello, or against a loss.
func checkPassBox(t *testing.T, name string, b impl.Box, h impl.Hello, want impl.Hello, done bool) {
	t.Helper()
	got, ok := impl.PassBox(b, h)
	checkLeft(t, name, got, ok, want, done)
	if ok {
		checkAddsNothing(t, name, pathOf(b), h, got)
	}
	// A path of one box is the box.
	got, ok = impl.PassPath(pathOf(b), h)
	checkLeft(t, name+", as a path", got, ok, want, done)
}

func checkBoxLoses(t *testing.T, name string, b impl.Box, h impl.Hello) {
	t.Helper()
	checkPassBox(t, name, b, h, impl.Hello{}, false)
}

// checkBox holds the program against leavesBox and reports whether the hello passes.
func checkBox(t *testing.T, name string, b impl.Box, h impl.Hello) bool {
	t.Helper()
	want, done := leavesBox(b, h)
	checkPassBox(t, name, b, h, want, done)
	return done
}

// checkPassPath holds what leaves a path against a hello, or against a loss, and what
// its boxes pass on one after the other as well.
func checkPassPath(t *testing.T, name string, path []impl.Box, h impl.Hello, want impl.Hello, done bool) {
	t.Helper()
	got, ok := impl.PassPath(path, h)
	checkLeft(t, name, got, ok, want, done)
	if ok {
		checkAddsNothing(t, name, path, h, got)
	}
	if len(path) > 4 {
		return
	}
	left, passes := h, isHelloOf(h)
	for _, b := range path {
		if passes {
			left, passes = impl.PassBox(b, left)
		}
	}
	if !passes {
		left = impl.Hello{}
	}
	checkLeft(t, name+", one after the other", left, passes, want, done)
}

func checkPathLoses(t *testing.T, name string, path []impl.Box, h impl.Hello) {
	t.Helper()
	checkPassPath(t, name, path, h, impl.Hello{}, false)
}

// checkPath holds the program against leavesPath and reports whether the hello passes.
func checkPath(t *testing.T, name string, path []impl.Box, h impl.Hello) bool {
	t.Helper()
	want, done := leavesPath(path, h)
	checkPassPath(t, name, path, h, want, done)
	return done
}

// checkIsBox also says whether the box is clear: only the zero Box is.
func checkIsBox(t *testing.T, name string, b impl.Box, want bool) {
	t.Helper()
	if got := impl.IsBox(b); got != want {
		t.Errorf("%s: IsBox(%.200s) is %v", name, boxText(b), got)
	}
	checkIsClear(t, name, b, boxText(b) == boxText(impl.Box{}))
}

func checkIsClear(t *testing.T, name string, b impl.Box, want bool) {
	t.Helper()
	if got := impl.IsClear(b); got != want {
		t.Errorf("%s: IsClear(%.200s) is %v", name, boxText(b), got)
	}
	checkIsClearPath(t, name, pathOf(b), want)
}

func checkIsClearPath(t *testing.T, name string, path []impl.Box, want bool) {
	t.Helper()
	if got := impl.IsClearPath(path); got != want {
		t.Errorf("%s: IsClearPath(%.200s) is %v", name, fmt.Sprint(path), got)
	}
}

// checkEqualBoxes asks from both sides.
func checkEqualBoxes(t *testing.T, name string, a impl.Box, b impl.Box, want bool) {
	t.Helper()
	if got, back := impl.EqualBoxes(a, b), impl.EqualBoxes(b, a); got != want || back != want {
		t.Errorf("%s: EqualBoxes(%.200s, %.200s) is %v, and %v the other way round", name, boxText(a), boxText(b), got, back)
	}
}

func isNoTag(n int) bool {
	return n < 0 || n > 255
}

// someBoxes returns valid boxes of each sort: with each Limit, with few, many and equal
// tags, and with all of it.
func someBoxes() []impl.Box {
	var boxes []impl.Box
	for limit := range 10 {
		boxes = append(boxes, limiting(limit), box(limit, bytesOf(40), bytesOf(10), limit%2 == 0))
	}
	for _, tags := range [][]int{
		{0}, {1}, {2}, {10}, {40}, {51}, {255}, {2, 40}, {40, 2}, {5, 5}, {10, 26}, {1, 2, 3}, {102, 153, 204}, {0, 51, 102, 153, 204, 255},
		{1, 2, 3, 4, 5, 6}, {10, 26, 42, 58, 74, 90}, {7, 7, 7, 7, 7, 7}, {255, 0, 255, 0, 128, 11},
	} {
		boxes = append(boxes, dropping(tags...), stripping(tags...), listing(tags...), box(0, tags, tags, false), box(5, tags, tags, true),
			box(9, bytesOf(99), tags, false), box(8, tags[:1], tags, true), box(0, tags, tags[:1], true))
	}
	return append(boxes, impl.Box{Drops: []int{}, Strips: []int{}}, listing(), listing([]int{}...))
}

// noBoxes returns boxes that are not valid, each by one number or one length alone,
// most of them clear but for that.
func noBoxes() []impl.Box {
	var boxes []impl.Box
	for _, limit := range append(versionLimits(), 256, math.MinInt+9) {
		if limit < 0 || limit > 9 {
			boxes = append(boxes, limiting(limit), box(limit, bytesOf(1), bytesOf(2), true))
		}
	}
	for _, tag := range byteLimits() {
		if !isNoTag(tag) {
			continue
		}
		for _, tags := range [][]int{{tag}, {1, tag}, {tag, 1}, {1, 2, 3, 4, 5, tag}} {
			boxes = append(boxes, dropping(tags...), stripping(tags...), listing(tags...))
		}
		boxes = append(boxes, box(9, bytesOf(tag), bytesOf(40), false), box(9, bytesOf(40), bytesOf(tag), false), box(3, bytesOf(tag), nil, true))
	}
	for _, tags := range [][]int{make([]int, 7), {200, 201, 202, 203, 204, 205, 206}, {1, 2, 3, 4, 5, 6, 7}, slices.Repeat(bytesOf(10), 7), allBytes(0)} {
		boxes = append(boxes, dropping(tags...), stripping(tags...), listing(tags...), box(9, tags, bytesOf(1), false), box(9, bytesOf(99), tags, true), box(5, tags, tags, false))
	}
	return boxes
}

func TestBoxLimits(t *testing.T) {
	if impl.MaxPath != 4 {
		t.Errorf("MaxPath is %d, not 4", impl.MaxPath)
	}
}

func TestIsBox(t *testing.T) {
	six, seven := bytesOf(1, 2, 3, 4, 5, 6), bytesOf(1, 2, 3, 4, 5, 6, 7)
	cases := []struct {
		name string
		b    impl.Box
		want bool
	}{
		{"the zero Box", impl.Box{}, true},
		{"empty lists", box(0, []int{}, []int{}, false), true},
		{"empty lists before spare capacity", box(0, seven[:0], bytesOf(-1, 256)[:0], false), true},
		{"Lists alone", listing(), true},
		{"the Limit 1", limiting(1), true},
		{"the Limit 9", limiting(9), true},
		{"the Limit 10", limiting(10), false},
		{"the Limit -1", limiting(-1), false},
		{"the Limit 1 modulo 2^32", limiting(1<<32 + 1), false},
		{"the least int as Limit", limiting(math.MinInt), false},
		{"the greatest int as Limit", limiting(math.MaxInt), false},
		{"the Limit 10 with Lists", box(10, nil, nil, true), false},
		{"the Limit 10 with tags", box(10, six, six, false), false},
		{"the tag 0", box(0, bytesOf(0), bytesOf(0), false), true},
		{"the tag 255", box(0, bytesOf(255), bytesOf(255), false), true},
		{"reserved tags", box(0, bytesOf(10, 26), bytesOf(250), false), true},
		{"a tag twice", box(0, bytesOf(5, 5), bytesOf(7, 7, 7), false), true},
		{"a tag in both", box(0, bytesOf(5), bytesOf(5), false), true},
		{"falling tags", box(0, bytesOf(9, 5, 1), bytesOf(255, 0), false), true},
		{"MaxExts Drops", dropping(six...), true},
		{"MaxExts Strips", stripping(six...), true},
		{"MaxExts of both", box(9, six, six, true), true},
		{"MaxExts equal tags", box(9, make([]int, 6), make([]int, 6), true), true},
		{"MaxExts before spare capacity", box(9, seven[:6], seven[:6], true), true},
		{"MaxExts + 1 Drops", dropping(seven...), false},
		{"MaxExts + 1 Strips", stripping(seven...), false},
		{"MaxExts + 1 equal Drops", dropping(make([]int, 7)...), false},
		{"MaxExts + 1 equal Strips", stripping(make([]int, 7)...), false},
		{"MaxExts + 1 Strips with Lists", listing(seven...), false},
		{"very many Drops", dropping(make([]int, 100000)...), false},
		{"very many Strips", stripping(make([]int, 100000)...), false},
		{"-1 in Drops", dropping(-1), false},
		{"-1 in Strips", stripping(-1), false},
		{"256 in Drops", dropping(256), false},
		{"256 in Strips", stripping(256), false},
		{"256 at the end of Drops", dropping(1, 2, 256), false},
		{"-1 at the end of Strips", stripping(1, 2, 3, 4, 5, -1), false},
		{"a tag of the low bits in Drops", dropping(1<<32 + 5), false},
		{"a tag of the low bits in Strips", stripping(1<<32 + 5), false},
		{"the least int in Drops", dropping(math.MinInt), false},
		{"the greatest int in Strips", stripping(math.MaxInt), false},
		{"256 in the spare capacity", box(0, bytesOf(1, 256)[:1], bytesOf(1, 256)[:1], false), true},
		{"nothing valid", box(-1, make([]int, 8), bytesOf(300), true), false},
	}
	for _, c := range cases {
		checkIsBox(t, c.name, c.b, c.want)
		if isBoxOf(c.b) != c.want {
			t.Errorf("%s: the test holds another answer", c.name)
		}
	}
}

func TestEveryNumberOfABox(t *testing.T) {
	for n := -300; n <= 600; n++ {
		checkIsBox(t, "every Limit", limiting(n), n >= 0 && n <= 9)
		for i := range 6 {
			tags := slices.Insert(bytesOf(1, 2, 3, 4, 5)[:i], i, n)
			checkIsBox(t, "every tag of Drops", dropping(tags...), !isNoTag(n))
			checkIsBox(t, "every tag of Strips", box(9, nil, tags, n%2 == 0), !isNoTag(n))
		}
	}
	for drops := range 10 {
		for strips := range 10 {
			b := box(0, allBytes(0)[:drops], allBytes(0)[:strips], false)
			checkIsBox(t, "every length", b, drops < 7 && strips < 7)
		}
	}
	for _, b := range someBoxes() {
		checkIsBox(t, "a box", b, true)
	}
	for _, b := range noBoxes() {
		checkIsBox(t, "no box", b, false)
	}
}

func TestPassBox(t *testing.T) {
	h := hello(bytesOf(1, 3), ext(2, 9), ext(10, 1), ext(40))
	known := hello(bytesOf(2, 4), ext(3), ext(1, 7, 8), ext(2))
	plain := hello(bytesOf(5))
	six := extsOf(ext(6), ext(5, 1), ext(4, 1, 2), ext(3, 1, 2, 3), ext(2, 1, 2, 3, 4), ext(1))
	cases := []struct {
		name string
		b    impl.Box
		h    impl.Hello
		want impl.Hello
	}{
		{"a clear box", impl.Box{}, h, h},
		{"a clear box, no extensions", impl.Box{}, plain, plain},
		{"a clear box, reserved extensions alone", impl.Box{}, hello(bytesOf(1), ext(10), ext(250, 1)), hello(bytesOf(1), ext(10), ext(250, 1))},
		{"a clear box, the longest hello", impl.Box{}, hello(allVersions(), someExts()[len(someExts())-1]...), hello(allVersions(), someExts()[len(someExts())-1]...)},
		{"empty lists", box(0, []int{}, []int{}, false), h, h},
		{"a clear box, versions before spare capacity", impl.Box{}, hello(bytesOf(1, 9)[:1]), hello(bytesOf(1))},

		{"the greatest version is the Limit", limiting(3), h, h},
		{"the greatest version is one below the Limit", limiting(4), h, h},
		{"the greatest version is one above the Limit", limiting(2), h, impl.Hello{}},
		{"the Limit is the least version", limiting(1), h, impl.Hello{}},
		{"the Limit is MaxVersion", limiting(9), hello(allVersions()), hello(allVersions())},
		{"the Limit is one below MaxVersion", limiting(8), hello(allVersions()), impl.Hello{}},
		{"the Limit 1 and the version 1", limiting(1), hello(bytesOf(1)), hello(bytesOf(1))},
		{"no Limit and MaxVersion", limiting(0), hello(bytesOf(9)), hello(bytesOf(9))},
		{"a version above the Limit in the spare capacity", limiting(3), hello(bytesOf(3, 4)[:1]), hello(bytesOf(3))},
		{"a Tag above the Limit", limiting(5), plain, plain},
		{"a Tag above the Limit 1", limiting(1), hello(bytesOf(1), ext(9), ext(255, 8)), hello(bytesOf(1), ext(9), ext(255, 8))},

		{"the first Tag in Drops", dropping(2), h, impl.Hello{}},
		{"a reserved Tag in Drops", dropping(10), h, impl.Hello{}},
		{"the last Tag in Drops", dropping(40), h, impl.Hello{}},
		{"a Tag in Drops behind others", dropping(5, 6, 7, 8, 9, 40), h, impl.Hello{}},
		{"a Tag in Drops twice", dropping(40, 40), h, impl.Hello{}},
		{"all Tags in Drops", dropping(2, 10, 40), h, impl.Hello{}},
		{"no Tag in Drops", dropping(1, 3, 9, 26, 41, 0), h, h},
		{"versions in Drops", dropping(1, 3), h, h},
		{"bytes of a Body in Drops", dropping(9, 1), h, h},
		{"a Tag in Drops, no extensions", dropping(2, 5), plain, plain},
		{"the Tag 0 in Drops", dropping(0), hello(bytesOf(1), impl.Ext{}), impl.Hello{}},
		{"the Tag 255 in Drops", dropping(255), hello(bytesOf(1), ext(255)), impl.Hello{}},
		{"a Tag of the spare capacity in Drops", dropping(40), hello(bytesOf(1, 3), h.Exts[:2]...), hello(bytesOf(1, 3), ext(2, 9), ext(10, 1))},
		{"a Tag in the spare capacity of Drops", dropping(bytesOf(5, 40)[:1]...), h, h},

		{"the first Tag in Strips", stripping(2), h, hello(bytesOf(1, 3), ext(10, 1), ext(40))},
		{"a reserved Tag in Strips", stripping(10), h, hello(bytesOf(1, 3), ext(2, 9), ext(40))},
		{"the last Tag in Strips", stripping(40), h, hello(bytesOf(1, 3), ext(2, 9), ext(10, 1))},
		{"a Tag in Strips twice", stripping(10, 10), h, hello(bytesOf(1, 3), ext(2, 9), ext(40))},
		{"two Tags in Strips in another order", stripping(40, 2), h, hello(bytesOf(1, 3), ext(10, 1))},
		{"all Tags in Strips", stripping(40, 10, 2), h, hello(bytesOf(1, 3))},
		{"all of MaxExts in Strips", stripping(1, 2, 3, 4, 5, 6), hello(bytesOf(4), six...), hello(bytesOf(4))},
		{"all of MaxExts but one in Strips", stripping(1, 2, 3, 5, 6), hello(bytesOf(4), six...), hello(bytesOf(4), six[2])},
		{"no Tag in Strips", stripping(1, 3, 9, 26, 41, 0), h, h},
		{"versions in Strips", stripping(1, 3), h, h},
		{"bytes of a Body in Strips", stripping(9, 1), h, h},
		{"a Tag in Strips, no extensions", stripping(2, 5), plain, plain},
		{"a Tag in the spare capacity of Strips", stripping(bytesOf(2, 40)[:1]...), h, hello(bytesOf(1, 3), ext(10, 1), ext(40))},

		{"a Tag in Drops and in Strips", box(0, bytesOf(2), bytesOf(2), false), h, impl.Hello{}},
		{"a Tag in Drops and in Strips, among others", box(0, bytesOf(5, 40), bytesOf(40, 10), false), h, impl.Hello{}},
		{"a Tag in Drops and in Strips that is not there", box(0, bytesOf(5), bytesOf(5, 10), false), h, hello(bytesOf(1, 3), ext(2, 9), ext(40))},
		{"one Tag in Drops, all others in Strips", box(0, bytesOf(10), bytesOf(2, 40), false), h, impl.Hello{}},
		{"a Tag in Drops and in Strips, with Lists", box(0, bytesOf(40), bytesOf(10, 40), true), h, impl.Hello{}},
		{"a listed Tag in Drops, with Lists", box(0, bytesOf(2), nil, true), known, impl.Hello{}},

		{"Lists and the Tags 1, 2 and 3", listing(), known, known},
		{"Lists and no extensions", listing(), plain, plain},
		{"Lists and other Tags", listing(), h, impl.Hello{}},
		{"Lists and the Tag 0", listing(), hello(bytesOf(1), ext(0)), impl.Hello{}},
		{"Lists and the Tag 4", listing(), hello(bytesOf(1), ext(1), ext(4)), impl.Hello{}},
		{"Lists and the Tag 255", listing(), hello(bytesOf(1), ext(255)), impl.Hello{}},
		{"Lists and a reserved Tag", listing(), hello(bytesOf(1), ext(10), ext(1)), impl.Hello{}},
		{"Lists and all other Tags in Strips", listing(40, 10), h, hello(bytesOf(1, 3), ext(2, 9))},
		{"Lists and one other Tag in neither", listing(40), h, impl.Hello{}},
		{"Lists and all Tags in Strips", listing(2, 10, 40), h, hello(bytesOf(1, 3))},
		{"Lists and a listed Tag in Strips", listing(1), known, hello(bytesOf(2, 4), ext(3), ext(2))},
		{"Lists and all listed Tags in Strips", listing(1, 2, 3), known, hello(bytesOf(2, 4))},
		{"Lists and Tags in Strips that are not there", listing(4, 5, 10), known, known},
		{"Lists and other Tags in Drops that are not there", box(0, bytesOf(4), nil, true), known, known},
		{"Lists and a Tag in the spare capacity of Strips", listing(bytesOf(10, 40)[:1]...), h, impl.Hello{}},
		{"Lists and an unlisted Tag in the spare capacity", listing(), hello(bytesOf(1), extsOf(ext(1), ext(9))[:1]...), hello(bytesOf(1), ext(1))},
		{"without Lists, other Tags", stripping(), h, h},

		{"everything passes", box(3, bytesOf(41), bytesOf(10, 40), true), h, hello(bytesOf(1, 3), ext(2, 9))},
		{"everything but the Limit", box(2, bytesOf(41), bytesOf(10, 40), true), h, impl.Hello{}},
		{"everything but Drops", box(3, bytesOf(2), bytesOf(10, 40), true), h, impl.Hello{}},
		{"everything but Lists", box(3, bytesOf(41), bytesOf(10), true), h, impl.Hello{}},
		{"the Limit is exceeded and all is stripped", box(2, nil, bytesOf(2, 10, 40), false), h, impl.Hello{}},

		{"the Limit -1", limiting(-1), h, impl.Hello{}},
		{"the Limit 10", limiting(10), h, impl.Hello{}},
		{"MaxExts + 1 Drops that are not there", dropping(200, 201, 202, 203, 204, 205, 206), h, impl.Hello{}},
		{"MaxExts + 1 Strips that are not there", stripping(200, 201, 202, 203, 204, 205, 206), h, impl.Hello{}},
		{"-1 in Drops", dropping(-1), h, impl.Hello{}},
		{"256 in Strips", stripping(256), h, impl.Hello{}},
		{"the zero Hello", impl.Box{}, impl.Hello{}, impl.Hello{}},
		{"the zero Hello and the Limit 9", limiting(9), impl.Hello{}, impl.Hello{}},
		{"a hello with falling versions", impl.Box{}, hello(bytesOf(3, 1)), impl.Hello{}},
		{"a hello with a version of 10", impl.Box{}, hello(bytesOf(1, 10)), impl.Hello{}},
		{"a hello with a Tag twice", impl.Box{}, hello(bytesOf(1), ext(5), ext(5)), impl.Hello{}},
		{"a hello with a Tag twice that is stripped", stripping(5), hello(bytesOf(1), ext(5), ext(2), ext(5)), impl.Hello{}},
		{"a hello with a Tag of 256", impl.Box{}, hello(bytesOf(1), ext(256)), impl.Hello{}},
		{"a hello with a Body of five bytes that is stripped", stripping(5), hello(bytesOf(1), ext(5, 1, 2, 3, 4, 5)), impl.Hello{}},
		{"a hello with seven extensions of which one is stripped", stripping(1), hello(bytesOf(4), append(slices.Clone(six), ext(7))...), impl.Hello{}},
		{"neither is valid", limiting(-1), hello(bytesOf(0), ext(-1)), impl.Hello{}},
	}
	for _, c := range cases {
		done := len(c.want.Versions) > 0
		checkPassBox(t, c.name, c.b, c.h, c.want, done)
		if checkBox(t, c.name, c.b, c.h) != done {
			t.Errorf("%s: the test holds another answer", c.name)
		}
	}
}

// Of all versions the greatest one alone counts.
func TestEveryLimitOfABox(t *testing.T) {
	passed, lost := 0, 0
	for _, versions := range everyVersions {
		for limit := -2; limit <= 12; limit++ {
			for _, exts := range [][]impl.Ext{nil, {ext(1), ext(9, 10), ext(200)}} {
				h := hello(versions, exts...)
				want := limit == 0 || limit > 0 && limit < 10 && slices.Max(versions) <= limit
				if checkBox(t, "every limit", limiting(limit), h) != want {
					t.Errorf("the test holds another answer for %d and %v", limit, versions)
				}
				if want {
					passed++
				} else {
					lost++
				}
			}
		}
	}
	if passed < 1000 || lost < 1000 {
		t.Errorf("%d hellos pass and %d do not", passed, lost)
	}
}

// Each tag is tried as a Tag, in front of others and behind them, and in each list.
func TestEveryTagInABox(t *testing.T) {
	for tag := range 256 {
		other := (tag + 100) % 256
		for _, exts := range [][]impl.Ext{{ext(tag, 1, 2)}, {ext(tag), ext(other, 7)}, {ext(other), ext(tag, 7)}} {
			h, single := hello(bytesOf(1, 2), exts...), len(exts) == 1
			left := hello(bytesOf(1, 2), lacking(exts, tag)...)
			checkBoxLoses(t, "a Tag in Drops", dropping(tag), h)
			checkBoxLoses(t, "a Tag in Drops and Strips", box(0, bytesOf(tag), bytesOf(tag), false), h)
			checkBoxLoses(t, "a Tag in Drops and Strips, with Lists", box(0, bytesOf(tag), bytesOf(tag, other), true), h)
			checkPassBox(t, "a Tag in Strips", stripping(tag), h, left, true)
			checkPassBox(t, "other Tags in both", box(0, bytesOf((tag+1)%256, (tag+255)%256), bytesOf((tag+2)%256), false), h, h, true)
			isListed := tag >= 1 && tag <= 3
			if got := checkBox(t, "a Tag and Lists", listing(), h); got != (isListed && single) {
				t.Errorf("the Tag %d of %v passes a box with Lists: %v", tag, h, got)
			}
			checkPassBox(t, "both Tags in Strips, with Lists", listing(other, tag), h, hello(bytesOf(1, 2)), true)
			checkBox(t, "a Tag in Strips, with Lists", listing(tag), h)
			checkBox(t, "another Tag in Strips, with Lists", listing(other), h)
		}
	}
}

// Of a few extensions each one is dropped, stripped, both or neither.
func TestEveryChoiceOfABox(t *testing.T) {
	lists := [][]impl.Ext{
		{ext(1, 1), ext(4), ext(10, 7), ext(2), ext(255, 1, 2)}, {ext(3), ext(2, 9), ext(1), ext(0), ext(26)},
		{ext(10), ext(26), ext(42, 4, 3, 2, 1), ext(58), ext(74)}, {ext(2), ext(3, 8), ext(1)},
	}
	passed, lost := 0, 0
	for _, exts := range lists {
		h := hello(bytesOf(2, 5), exts...)
		for choice := range 1 << (2 * len(exts)) {
			var drops, strips []int
			for i, x := range exts {
				if choice>>(2*i)&1 == 1 {
					drops = append(drops, x.Tag)
				}
				if choice>>(2*i+1)&1 == 1 {
					strips = append(bytesOf(x.Tag), strips...)
				}
			}
			for _, limit := range bytesOf(0, 4, 5) {
				for _, b := range []impl.Box{box(limit, drops, strips, false), box(limit, drops, strips, true)} {
					if checkBox(t, "every choice", b, h) {
						passed++
					} else {
						lost++
					}
				}
			}
			// What is stripped or not is no choice of a hello without it.
			checkPassBox(t, "every choice, no extensions", box(5, drops, strips, true), hello(bytesOf(5)), hello(bytesOf(5)), true)
		}
	}
	if passed < 200 || lost < 5000 {
		t.Errorf("%d hellos pass and %d do not", passed, lost)
	}
}

// boxesAbout returns boxes with a Limit about the greatest version of a hello and with
// its tags and others in their lists.
func boxesAbout(h impl.Hello) []impl.Box {
	tags, greatest := impl.TagsOf(h.Exts), slices.Max(h.Versions)
	boxes := []impl.Box{{}, listing(), limiting(greatest), limiting(greatest - 1), limiting(min(9, greatest+1)), dropping(tags...), stripping(tags...), listing(tags...)}
	for i, tag := range tags {
		other := (tag + 1) % 256
		without := slices.Delete(slices.Clone(tags), i, i+1)
		for _, l := range [][]int{{tag}, {tag, tag}, {other}, {other, tag}, tags[:i], tags[i:], without} {
			boxes = append(boxes, dropping(l...), stripping(l...), listing(l...), box(greatest, l, bytesOf(tag), false),
				box(0, bytesOf(other), l, true), box(0, bytesOf(tag), l, false))
		}
	}
	return boxes
}

func TestBoxesOfManyHellos(t *testing.T) {
	passed, lost, stripped := 0, 0, 0
	for i, h := range someHellos() {
		boxes := boxesAbout(h)
		if i%17 == 0 {
			boxes = append(boxes, someBoxes()...)
		}
		for _, b := range boxes {
			if !checkBox(t, "a hello", b, h) {
				lost++
				continue
			}
			passed++
			if got, _ := impl.PassBox(b, h); len(got.Exts) < len(h.Exts) {
				stripped++
			}
		}
	}
	if passed < 10000 || lost < 10000 || stripped < 5000 {
		t.Errorf("%d hellos pass, %d of them with less, and %d do not", passed, stripped, lost)
	}
}

// A box without Limit, Drops, Strips and Lists passes every valid hello on as it is, and
// so does a path of such boxes.
func TestClearPaths(t *testing.T) {
	plain := []impl.Box{{}, {Drops: []int{}, Strips: []int{}}, {Drops: bytesOf(1)[:0], Strips: bytesOf(256)[:0]}}
	for _, b := range plain {
		checkIsClear(t, "a clear box", b, true)
		for _, h := range someHellos() {
			checkPassBox(t, "a clear box", b, h, h, true)
		}
	}
	for count := range 10 {
		path := pathOf()
		for i := range count {
			path = append(path, plain[i%3])
		}
		checkIsClearPath(t, "clear boxes", path, count <= 4)
		for _, h := range aboutFifty() {
			if count <= 4 {
				checkPassPath(t, "clear boxes", path, h, h, true)
			} else {
				checkPathLoses(t, "too many clear boxes", path, h)
			}
		}
	}
	checkIsClearPath(t, "very many clear boxes", make([]impl.Box, 100000), false)
	checkPathLoses(t, "very many clear boxes", make([]impl.Box, 100000), hello(bytesOf(1)))
	// What lies in the spare capacity of a path is no box of it.
	checkIsClearPath(t, "spare capacity", make([]impl.Box, 9)[:4], true)
	checkIsClearPath(t, "other boxes in the spare capacity", pathOf(impl.Box{}, listing())[:1], true)
	checkPassPath(t, "spare capacity", make([]impl.Box, 9)[:4], hello(bytesOf(1)), hello(bytesOf(1)), true)
	checkPassPath(t, "other boxes in the spare capacity", pathOf(impl.Box{}, dropping(5))[:1], hello(bytesOf(1), ext(5)), hello(bytesOf(1), ext(5)), true)
}

func TestPathsThatAreNotClear(t *testing.T) {
	cases := []struct {
		name string
		b    impl.Box
	}{
		{"the Limit 1", limiting(1)}, {"the Limit 9", limiting(9)}, {"the Limit -1", limiting(-1)}, {"the Limit 10", limiting(10)},
		{"the least int as Limit", limiting(math.MinInt)}, {"the greatest int as Limit", limiting(math.MaxInt)}, {"the Limit 2^32", limiting(1 << 32)},
		{"Lists", listing()}, {"a tag in Drops", dropping(5)}, {"the tag 0 in Drops", dropping(0)}, {"a tag in Strips", stripping(5)},
		{"the tag 0 in Strips", stripping(0)}, {"-1 in Drops", dropping(-1)}, {"256 in Drops", dropping(256)}, {"-1 in Strips", stripping(-1)},
		{"256 in Strips", stripping(256)}, {"seven Drops", dropping(make([]int, 7)...)}, {"seven Strips", stripping(make([]int, 7)...)},
		{"all of it", box(9, bytesOf(1), bytesOf(2), true)},
	}
	for _, c := range cases {
		checkIsClear(t, c.name, c.b, false)
		for count := 1; count <= 6; count++ {
			for i := range count {
				path := make([]impl.Box, count)
				path[i] = c.b
				checkIsClearPath(t, c.name, path, false)
			}
		}
	}
	for _, b := range slices.Concat(someBoxes(), noBoxes()) {
		checkIsClear(t, "any box", b, boxText(b) == boxText(impl.Box{}))
	}
	// A path that is not clear may pass on a hello as it is.
	h := hello(bytesOf(9), ext(1), ext(2, 7))
	checkPassPath(t, "boxes without effect", pathOf(limiting(9), dropping(5), stripping(6), listing()), h, h, true)
}

func TestPassPath(t *testing.T) {
	h := hello(bytesOf(1, 3), ext(2, 9), ext(10, 1), ext(40))
	without := func(tags ...int) impl.Hello {
		exts := h.Exts
		for _, tag := range tags {
			exts = lacking(exts, tag)
		}
		return hello(h.Versions, exts...)
	}
	wrong := limiting(10)
	cases := []struct {
		name string
		path []impl.Box
		h    impl.Hello
		want impl.Hello
	}{
		{"nil", nil, h, h},
		{"no boxes", pathOf(), h, h},
		{"no boxes before spare capacity", pathOf(dropping(2))[:0], h, h},
		{"one box", pathOf(stripping(2)), h, without(2)},
		{"two boxes", pathOf(stripping(2), stripping(40)), h, without(2, 40)},
		{"the same box twice", pathOf(stripping(2), stripping(2)), h, without(2)},
		{"MaxPath boxes", pathOf(stripping(2), limiting(3), dropping(5), stripping(10)), h, without(2, 10)},
		{"MaxPath boxes that take all", pathOf(stripping(2), stripping(10), stripping(40), listing()), h, without(2, 10, 40)},
		{"MaxPath + 1 boxes", pathOf(stripping(2), limiting(3), dropping(5), stripping(10), impl.Box{}), h, impl.Hello{}},
		{"a box behind one that strips what it drops", pathOf(stripping(40), dropping(40)), h, without(40)},
		{"a box in front of one that strips what it drops", pathOf(dropping(40), stripping(40)), h, impl.Hello{}},
		{"Lists behind boxes that strip the rest", pathOf(stripping(40), stripping(10), listing()), h, without(10, 40)},
		{"Lists in front of boxes that strip the rest", pathOf(listing(), stripping(40), stripping(10)), h, impl.Hello{}},
		{"Lists between boxes that strip the rest", pathOf(stripping(40), listing(), stripping(10)), h, impl.Hello{}},
		{"Lists with Strips behind a box that strips", pathOf(stripping(40), listing(10)), h, without(10, 40)},
		{"a Tag in both lists of the second box", pathOf(stripping(40), box(0, bytesOf(40), bytesOf(40), false)), h, without(40)},
		{"a Tag in both lists of the first box", pathOf(box(0, bytesOf(40), bytesOf(40), false), stripping(40)), h, impl.Hello{}},
		{"a Limit behind others", pathOf(impl.Box{}, stripping(2), limiting(2)), h, impl.Hello{}},
		{"a Limit in front of others", pathOf(limiting(2), impl.Box{}), h, impl.Hello{}},
		{"the least of the Limits", pathOf(limiting(9), limiting(4), limiting(3), limiting(5)), h, h},
		{"one Limit too low", pathOf(limiting(9), limiting(4), limiting(2), limiting(5)), h, impl.Hello{}},
		{"the last box drops", pathOf(impl.Box{}, impl.Box{}, impl.Box{}, dropping(2)), h, impl.Hello{}},
		{"a box in the spare capacity", pathOf(stripping(2), dropping(10))[:1], h, without(2)},
		{"four boxes of five", pathOf(stripping(2), impl.Box{}, impl.Box{}, impl.Box{}, wrong)[:4], h, without(2)},
		{"no box at all", pathOf(wrong), h, impl.Hello{}},
		{"no box behind others", pathOf(impl.Box{}, stripping(2), impl.Box{}, wrong), h, impl.Hello{}},
		{"no box in front of others", pathOf(wrong, impl.Box{}), h, impl.Hello{}},
		{"no box behind a loss", pathOf(dropping(2), wrong), h, impl.Hello{}},
		{"nil and the zero Hello", nil, impl.Hello{}, impl.Hello{}},
		{"no boxes and a hello without versions", pathOf(), hello(nil, ext(1)), impl.Hello{}},
		{"no boxes and falling versions", nil, hello(bytesOf(3, 1)), impl.Hello{}},
		{"no boxes and a Tag twice", nil, hello(bytesOf(1), ext(5), ext(5)), impl.Hello{}},
		{"no boxes and a Tag of 256", nil, hello(bytesOf(1), ext(256)), impl.Hello{}},
		{"no boxes and a byte of -1", nil, hello(bytesOf(1), ext(5, -1)), impl.Hello{}},
		{"a box that would strip what is not valid", pathOf(stripping(5)), hello(bytesOf(1), ext(5), ext(5)), impl.Hello{}},
		{"clear boxes and the zero Hello", make([]impl.Box, 4), impl.Hello{}, impl.Hello{}},
		{"too many boxes and the zero Hello", make([]impl.Box, 5), impl.Hello{}, impl.Hello{}},
	}
	for _, c := range cases {
		done := len(c.want.Versions) > 0
		checkPassPath(t, c.name, c.path, c.h, c.want, done)
		if checkPath(t, c.name, c.path, c.h) != done {
			t.Errorf("%s: the test holds another answer", c.name)
		}
	}
}

// Every sequence of up to MaxPath + 1 of a few boxes is a path.
func TestEverySequenceOfAFewBoxes(t *testing.T) {
	sets := [][]impl.Box{
		{{}, stripping(40), dropping(40), listing(), stripping(2, 10)}, {limiting(3), limiting(2), stripping(10), listing(40), box(0, bytesOf(10), bytesOf(40), false)},
		{listing(10), box(3, bytesOf(2), bytesOf(2, 40), true), stripping(2), dropping(1), limiting(10)},
	}
	hellos := []impl.Hello{
		hello(bytesOf(1, 3), ext(2, 9), ext(10, 1), ext(40)), hello(bytesOf(2), ext(40, 1), ext(3)), hello(bytesOf(3, 4), ext(1), ext(10)), hello(bytesOf(1)), hello(nil, ext(1)),
	}
	for _, set := range sets {
		passed, lost := 0, 0
		var places []int
		for i := range set {
			places = append(places, i)
		}
		eachList(places, impl.MaxPath+1, func(chosen []int) {
			path := pathOf()
			for _, i := range chosen {
				path = append(path, set[i])
			}
			for _, h := range hellos {
				if checkPath(t, "a sequence", path, h) {
					passed++
				} else {
					lost++
				}
			}
		})
		if passed < 100 || lost < 1000 {
			t.Errorf("%v: %d hellos pass and %d do not", set, passed, lost)
		}
	}
}

// A box that is none loses every hello, also where it has no reason to, and wherever it
// stands in a path.
func TestNoBoxes(t *testing.T) {
	hellos := []impl.Hello{
		hello(bytesOf(1)), hello(allVersions()), hello(bytesOf(1), ext(1)), hello(bytesOf(1, 9), ext(2, 9), ext(10), ext(255)), hello(bytesOf(5), someExts()[len(someExts())-1]...), {},
	}
	for _, b := range noBoxes() {
		checkIsBox(t, "no box", b, false)
		for _, h := range hellos {
			checkBoxLoses(t, "no box", b, h)
			for count := 1; count <= 5; count++ {
				for i := range count {
					path := make([]impl.Box, count)
					path[i] = b
					checkPathLoses(t, "no box in a path", path, h)
				}
			}
		}
	}
}

func TestNoHellosPass(t *testing.T) {
	boxes := someBoxes()
	for i, h := range noHellos() {
		for _, b := range []impl.Box{{}, limiting(9), listing(), stripping(impl.TagsOf(h.Exts)[:min(len(h.Exts), 6)]...), boxes[i%len(boxes)], noBoxes()[i%len(noBoxes())]} {
			checkBoxLoses(t, "no hello", b, h)
		}
		for count := range 7 {
			checkPathLoses(t, "no hello", make([]impl.Box, count), h)
		}
		checkPathLoses(t, "no hello", nil, h)
		checkPathLoses(t, "no hello", pathOf(boxes[i%len(boxes)], boxes[(i+7)%len(boxes)]), h)
	}
	// What a box would take away has to be valid too.
	for _, h := range aboutFifty() {
		eachHelloChange(h, func(changed impl.Hello) {
			if got, ok := impl.PassPath(nil, changed); ok != isHelloOf(changed) || !ok && helloText(got) != helloText(impl.Hello{}) {
				t.Errorf("of %v, no boxes leave %v, %v", changed, got, ok)
			}
			if got, ok := impl.PassBox(stripping(0, 51, 255), changed); ok != isHelloOf(changed) || !ok && helloText(got) != helloText(impl.Hello{}) {
				t.Errorf("of %v, a box leaves %v, %v", changed, got, ok)
			}
		})
	}
}

func TestEqualBoxes(t *testing.T) {
	b := box(3, bytesOf(2, 40), bytesOf(10), true)
	cases := []struct {
		name string
		a, b impl.Box
		want bool
	}{
		{"the same", b, b, true},
		{"equal", b, box(3, bytesOf(2, 40), bytesOf(10), true), true},
		{"both zero", impl.Box{}, impl.Box{}, true},
		{"nil and empty lists", impl.Box{}, box(0, []int{}, []int{}, false), true},
		{"nil and empty Drops", stripping(5), box(0, []int{}, bytesOf(5), false), true},
		{"nil and empty Strips", dropping(5), box(0, bytesOf(5), []int{}, false), true},
		{"before spare capacity", box(1, bytesOf(1, 2)[:1], bytesOf(3, 4)[:1], false), box(1, bytesOf(1, 5)[:1], bytesOf(3, 6)[:1], false), true},
		{"MaxExts of both", box(9, make([]int, 6), make([]int, 6), true), box(9, make([]int, 6), make([]int, 6), true), true},
		{"no boxes", box(-1, bytesOf(-1, 300), make([]int, 9), true), box(-1, bytesOf(-1, 300), make([]int, 9), true), true},
		{"the least and the greatest int", box(math.MinInt, bytesOf(math.MaxInt), bytesOf(math.MinInt), false), box(math.MinInt, bytesOf(math.MaxInt), bytesOf(math.MinInt), false), true},
		{"another Limit", b, box(4, bytesOf(2, 40), bytesOf(10), true), false},
		{"another Limit alone", impl.Box{}, limiting(9), false},
		{"the Limit of the low bits", limiting(3), limiting(1<<32 + 3), false},
		{"the least or the greatest Limit", limiting(math.MinInt), limiting(math.MaxInt), false},
		{"Limits that are none", limiting(-1), limiting(10), false},
		{"another Lists", b, box(3, bytesOf(2, 40), bytesOf(10), false), false},
		{"another Lists alone", impl.Box{}, listing(), false},
		{"another tag in Drops", b, box(3, bytesOf(2, 41), bytesOf(10), true), false},
		{"another first tag in Drops", b, box(3, bytesOf(1, 40), bytesOf(10), true), false},
		{"another order of Drops", b, box(3, bytesOf(40, 2), bytesOf(10), true), false},
		{"a tag less in Drops", b, box(3, bytesOf(2), bytesOf(10), true), false},
		{"a tag more in Drops", b, box(3, bytesOf(2, 40, 0), bytesOf(10), true), false},
		{"a tag twice in Drops", dropping(2), dropping(2, 2), false},
		{"no Drops", b, box(3, nil, bytesOf(10), true), false},
		{"the tag 0 in Drops alone", impl.Box{}, dropping(0), false},
		{"another tag in Strips", b, box(3, bytesOf(2, 40), bytesOf(11), true), false},
		{"another order of Strips", stripping(1, 2), stripping(2, 1), false},
		{"a tag less in Strips", b, box(3, bytesOf(2, 40), nil, true), false},
		{"a tag more in Strips", b, box(3, bytesOf(2, 40), bytesOf(10, 0), true), false},
		{"a tag twice in Strips", stripping(2), stripping(2, 2), false},
		{"the tag 0 in Strips alone", impl.Box{}, stripping(0), false},
		{"a tag of the low bits", stripping(2), stripping(1<<32 + 2), false},
		{"the least or the greatest tag", stripping(math.MinInt), stripping(math.MaxInt), false},
		{"a tag of the other list", dropping(2), stripping(2), false},
		{"the lists exchanged", box(0, bytesOf(1), bytesOf(2), false), box(0, bytesOf(2), bytesOf(1), false), false},
		{"the same numbers in a row", box(0, bytesOf(1, 2), bytesOf(3), false), box(0, bytesOf(1), bytesOf(2, 3), false), false},
		{"boxes that do the same", stripping(2), stripping(2, 2), false},
		{"no boxes, another length", dropping(make([]int, 9)...), dropping(make([]int, 10)...), false},
		{"no boxes, another number", stripping(-1, 300), stripping(-1, 301), false},
	}
	boxes := slices.Concat(someBoxes(), noBoxes())
	for _, c := range cases {
		checkEqualBoxes(t, c.name, c.a, c.b, c.want)
		if (boxText(c.a) == boxText(c.b)) != c.want {
			t.Errorf("%s: the test holds another answer", c.name)
		}
		boxes = append(boxes, c.a, c.b)
	}
	texts := make([]string, len(boxes))
	for i, b := range boxes {
		texts[i] = boxText(b)
	}
	for i, a := range boxes {
		for k, b := range boxes {
			checkEqualBoxes(t, "any two", a, b, texts[i] == texts[k])
		}
	}
}

// tagsByChance returns few tags, often some of those that extsByChance gives, and now
// and then too many of them or one that is none.
func tagsByChance(pick *rand.Rand) []int {
	var tags []int
	for range pick.IntN(4) {
		tags = append(tags, bytesOf(0, 1, 2, 5, 9, 10, 11, 26, 58, 128, 250, 255)[pick.IntN(12)])
	}
	switch pick.IntN(60) {
	case 0:
		return append(tags, byteLimits()[pick.IntN(len(byteLimits()))])
	case 1:
		return slices.Repeat(bytesOf(3), 5+pick.IntN(4))
	}
	return tags
}

func boxByChance(pick *rand.Rand) impl.Box {
	b := impl.Box{}
	if pick.IntN(3) == 0 {
		b.Limit = pick.IntN(10)
	}
	if pick.IntN(60) == 0 {
		b.Limit = versionLimits()[pick.IntN(len(versionLimits()))]
	}
	if pick.IntN(4) == 0 {
		b.Drops = tagsByChance(pick)
	}
	b.Strips = tagsByChance(pick)
	b.Lists = pick.IntN(8) == 0
	return b
}

func TestBoxesByChance(t *testing.T) {
	passed, lost, far := 0, 0, 0
	for seed := range 6000 {
		pick := chance(seed)
		h := hello(versionsByChance(pick), extsByChance(pick)...)
		path := pathOf()
		for range pick.IntN(6) {
			path = append(path, boxByChance(pick))
		}
		for _, b := range path {
			checkIsBox(t, "by chance", b, isBoxOf(b))
			checkBox(t, "by chance", b, h)
			checkEqualBoxes(t, "by chance", b, path[0], boxText(b) == boxText(path[0]))
		}
		switch done := checkPath(t, "by chance", path, h); {
		case !done:
			lost++
			continue
		case len(path) > 1:
			far++
		}
		passed++
		checkDivided(t, path, h)
	}
	if passed < 1500 || lost < 1500 || far < 500 {
		t.Errorf("%d hellos pass, %d of them several boxes, and %d do not", passed, far, lost)
	}
}

// checkDivided passes a hello on over the first boxes of a path and then over the
// others: this is the whole path, wherever it is divided.
func checkDivided(t *testing.T, path []impl.Box, h impl.Hello) {
	t.Helper()
	want, done := impl.PassPath(path, h)
	for i := range len(path) + 1 {
		left, ok := impl.PassPath(path[:i], h)
		if !ok {
			t.Errorf("%v does not leave %v, but leaves %v", h, path[:i], path)
		}
		got, ok := impl.PassPath(path[i:], left)
		checkLeft(t, "a divided path", got, ok, want, done)
	}
	// Who passes a path passes it again as it is, since it asks for nothing that is not
	// there any more.
	again, ok := impl.PassPath(path, want)
	checkLeft(t, "a path once more", again, ok, want, done)
}

// Any int may stand in every place.
func TestBoxesWithAnyIntEverywhere(t *testing.T) {
	for _, n := range slices.Concat(byteLimits(), versionLimits()) {
		hellos := []impl.Hello{hello(bytesOf(1, 9), ext(2, 9), ext(5)), hello(bytesOf(n), ext(1)), hello(bytesOf(1), ext(n)), hello(bytesOf(2), ext(1, n)), hello(bytesOf(n), ext(n, n))}
		for size := range 9 {
			l := slices.Repeat(bytesOf(n), size)
			for _, b := range []impl.Box{limiting(n), dropping(l...), stripping(l...), listing(l...), box(n, l, l, true), box(0, append(l, 5), bytesOf(2), false), box(9, bytesOf(3), append(bytesOf(2, 5), l...), true)} {
				checkIsBox(t, "any int", b, isBoxOf(b))
				checkEqualBoxes(t, "any int", b, box(b.Limit, slices.Clone(b.Drops), slices.Clone(b.Strips), b.Lists), true)
				checkEqualBoxes(t, "any int", b, box(b.Limit+1, b.Drops, b.Strips, b.Lists), false)
				checkEqualBoxes(t, "any int", b, box(b.Limit, append(slices.Clone(b.Drops), n), b.Strips, b.Lists), false)
				for _, h := range hellos {
					checkBox(t, "any int", b, h)
					checkPath(t, "any int", slices.Repeat(pathOf(b), size), h)
				}
			}
		}
	}
}

func TestLongBoxes(t *testing.T) {
	const many = 100000
	var numbers []int
	for i := range many {
		numbers = append(numbers, i)
	}
	h := hello(bytesOf(1, 9), ext(2, 9), ext(10))
	exts := make([]impl.Ext, 3000)
	for i := range exts {
		exts[i].Tag = i % 300
	}
	for _, b := range []impl.Box{dropping(numbers...), stripping(numbers...), listing(numbers...), box(9, numbers, numbers, true), dropping(make([]int, many)...), stripping(make([]int, many)...)} {
		checkIsBox(t, "a long box", b, false)
		checkBoxLoses(t, "a long box", b, h)
		checkPathLoses(t, "a long box", pathOf(impl.Box{}, b), h)
		checkEqualBoxes(t, "a long box", b, box(b.Limit, slices.Clone(b.Drops), slices.Clone(b.Strips), b.Lists), true)
		checkEqualBoxes(t, "a long box", b, impl.Box{}, false)
	}
	for _, long := range []impl.Hello{hello(numbers, h.Exts...), hello(numbers[1:]), hello(bytesOf(1), exts...), hello(bytesOf(1), ext(5, numbers...))} {
		for _, b := range []impl.Box{{}, limiting(9), stripping(5), listing()} {
			checkBoxLoses(t, "a long hello", b, long)
			checkPathLoses(t, "a long hello", make([]impl.Box, 4), long)
		}
	}
	checkPathLoses(t, "a long path", slices.Repeat(pathOf(stripping(2)), many), h)
	checkIsClearPath(t, "a long path", slices.Repeat(pathOf(stripping(2)), many), false)
}

// markedPath returns a copy of a path with marks in its spare capacity and in that of
// the lists of its boxes.
func markedPath(path []impl.Box) []impl.Box {
	out := pathOf()
	for _, b := range path {
		out = append(out, box(b.Limit, markedBytes(b.Drops), markedBytes(b.Strips), b.Lists))
	}
	return append(out, slices.Repeat(pathOf(box(78, bytesOf(79), bytesOf(80), true)), 8)...)[:len(path)]
}

// memoryOfPath prints all memory behind a path, its spare capacity too.
func memoryOfPath(path []impl.Box) string {
	text := fmt.Sprint(len(path))
	for _, b := range whole(path) {
		text += fmt.Sprint(b, whole(b.Drops), whole(b.Strips))
	}
	return text
}

// askBoxes asks everything of the chapter and returns the answers as a text.
func askBoxes(path []impl.Box, h impl.Hello) string {
	got, ok := impl.PassPath(path, h)
	text := fmt.Sprint(got, ok, impl.IsClearPath(path))
	for i, b := range path {
		got, ok := impl.PassBox(b, h)
		text += fmt.Sprint(got, ok, impl.IsBox(b), impl.IsClear(b), impl.EqualBoxes(b, b), impl.EqualBoxes(b, path[0]), impl.IsClearPath(path[:i]))
	}
	return text
}

// mixedPaths returns paths with boxes that take much, little and nothing from a hello,
// and with such as are none.
func mixedPaths(h impl.Hello, seed int) [][]impl.Box {
	tags := append(impl.TagsOf(h.Exts), 99)[:min(len(h.Exts)+1, 6)]
	wrong := noBoxes()[seed%len(noBoxes())]
	return [][]impl.Box{
		nil, {}, {{}}, make([]impl.Box, 4), make([]impl.Box, 5), {stripping(tags[:1]...)}, {stripping(tags...), listing()}, {listing(tags...), limiting(9)},
		{limiting(9), stripping(tags[len(tags)/2:]...), dropping(99, 98), box(0, bytesOf(97), tags[:1], false)}, {impl.Box{}, dropping(tags...)},
		{stripping(tags...), wrong}, {wrong}, {limiting(1), stripping(5)}, {dropping([]int{}...), stripping(200, 201)},
	}
}

func TestBoxesKeepArguments(t *testing.T) {
	for i, h := range mixedHellos() {
		h := markedHello(h)
		for _, path := range mixedPaths(h, i) {
			path = markedPath(path)
			before := memoryOfHello(h) + memoryOfPath(path)
			askBoxes(path, h)
			if after := memoryOfHello(h) + memoryOfPath(path); after != before {
				t.Errorf("the arguments are changed from %s to %s", before, after)
			}
		}
	}
}

// Also where nothing is taken away, everything that leaves is the caller's own.
func TestBoxesShareNoMemory(t *testing.T) {
	for i, h := range mixedHellos() {
		for k, path := range mixedPaths(h, i) {
			h, path := markedHello(h), markedPath(path)
			exts := [][]impl.Ext{whole(h.Exts)}
			numbers := append(bodiesOf(slices.Clone(h.Exts)), h.Versions)
			for _, b := range path {
				numbers = append(numbers, b.Drops, b.Strips)
			}
			keep := func(x impl.Hello) {
				exts = append(exts, whole(x.Exts))
				numbers = slices.Concat(numbers, bodiesOf(x.Exts), [][]int{x.Versions})
			}
			for range 2 {
				left, ok := impl.PassPath(path, h)
				if k < 4 && ok != isHelloOf(h) {
					t.Errorf("%v does not leave %v", h, path)
				}
				keep(left)
				for _, b := range path {
					left, _ = impl.PassBox(b, h)
					keep(left)
				}
			}
			for i, l := range numbers {
				numbers[i] = whole(l)
			}
			checkApart(t, helloText(h), numbers)
			checkAllApart(t, helloText(h), exts, func(x *impl.Ext) { x.Tag += 1000 })
		}
	}
}

// A Body that stands in a hello twice leaves as two, also if it is the memory of the
// versions and of the lists of a box.
func TestBoxesWithTheSameMemory(t *testing.T) {
	body := markedBytes(bytesOf(1, 2, 3))
	h := hello(body[:2], ext(1, body...), ext(2, body...), ext(4, body[:0]...), ext(5, body[1:]...))
	for _, b := range []impl.Box{{}, stripping(4), stripping(body...), dropping(body[2:]...), box(9, body[2:], body[:1], false), box(9, body[2:3], append(bytesOf(4, 5), body...), true)} {
		x, ok := impl.PassBox(b, h)
		y, done := impl.PassPath(pathOf(b, b), h)
		z, _ := impl.PassPath(nil, h)
		want, passes := leavesBox(b, h)
		checkLeft(t, "the same memory", x, ok, want, passes)
		checkLeft(t, "the same memory", y, done, want, passes)
		numbers := slices.Concat(bodiesOf(x.Exts), bodiesOf(y.Exts), bodiesOf(z.Exts), [][]int{whole(x.Versions), whole(y.Versions), whole(z.Versions)})
		checkApart(t, "the same memory", numbers)
		if memory := whole(body); !slices.Equal(memory, whole(markedBytes(bytesOf(1, 2, 3)))) {
			t.Fatalf("the Body is changed to %v", memory)
		}
	}
}

// What one call has met is not known to another.
func TestBoxesKeepNoState(t *testing.T) {
	hellos := mixedHellos()
	ask := func(i int) string {
		text := ""
		for _, path := range mixedPaths(hellos[i], i) {
			text += askBoxes(path, hellos[i])
		}
		return text
	}
	var first []string
	for i := range hellos {
		first = append(first, ask(i))
	}
	for i := range slices.Backward(hellos) {
		if got := ask(i); got != first[i] {
			t.Errorf("of %.200s the answers are %.500s, not %.500s, after other calls", helloText(hellos[i]), got, first[i])
		}
	}
}

// A hello and a box that are changed later change what leaves next and nothing that has
// left.
func TestBoxesAreReadWhenAsked(t *testing.T) {
	h := hello(bytesOf(1, 3), ext(2, 9), ext(40, 1))
	path := pathOf(box(3, bytesOf(99), bytesOf(40), false), stripping(7))
	left, ok := impl.PassPath(path, h)
	one, _ := impl.PassBox(path[1], h)
	wanted, before := helloText(hello(bytesOf(1, 3), ext(2, 9))), helloText(h)
	if !ok {
		t.Fatalf("%v does not leave %v", h, path)
	}
	for _, n := range bytesOf(5, 10, 40, 256, -1, 2) {
		h.Exts[0].Tag, h.Exts[0].Body[0], h.Versions[1] = n, n+1, max(2, n%10)
		path[0].Limit, path[0].Drops[0], path[0].Strips[0], path[1].Strips[0] = max(2, n%10), n+1, n, n
		checkBox(t, "changed later", path[0], h)
		checkPath(t, "changed later", path, h)
		if helloText(left) != wanted || helloText(one) != before {
			t.Errorf("what has left is changed to %v, %v", left, one)
		}
	}
}
