package tests

import (
	"fmt"
	"math"
	"math/rand/v2"
	"slices"
	"testing"

	"loop.example/g03000/impl"
)

// Promise 17: answers choose only what was offered (chapter 17).

func hello(versions []int, exts ...impl.Ext) impl.Hello {
	return impl.Hello{Versions: versions, Exts: exts}
}

func answer(version int, exts ...impl.Ext) impl.Answer {
	return impl.Answer{Version: version, Exts: exts}
}

func isHelloOf(h impl.Hello) bool {
	return isVersionList(h.Versions) && isExtList(h.Exts)
}

func isAnswerOf(a impl.Answer) bool {
	return slices.Contains(allVersions(), a.Version) && isExtList(a.Exts)
}

// helloBytesOf writes a hello, valid or not.
func helloBytesOf(h impl.Hello) []int {
	return slices.Concat(bytesOf(len(h.Versions)), h.Versions, writtenExts(h.Exts))
}

func answerBytesOf(a impl.Answer) []int {
	return slices.Insert(writtenExts(a.Exts), 0, a.Version)
}

// helloReadings returns the valid hellos that are written as b. It tries every number of
// versions, where the program goes by what the bytes say.
func helloReadings(b []int) []impl.Hello {
	var all []impl.Hello
	for count := 1; count <= 9 && count < len(b); count++ {
		if b[0] != count || !isVersionList(b[1:1+count]) {
			continue
		}
		for _, exts := range extReadings(b[1+count:]) {
			all = append(all, hello(b[1:1+count], exts...))
		}
	}
	return all
}

func isReservedTag(tag int) bool {
	return slices.Contains(reservedTags(), tag)
}

// choiceOf strikes out what is not chosen, where the program gathers what is.
func choiceOf(versions []int, tags []int, h impl.Hello) (impl.Answer, bool) {
	best := bestOf(versions, h.Versions)
	if best == 0 || !isHelloOf(h) {
		return impl.Answer{}, false
	}
	return answer(best, stripped(knownOf(h.Exts, tags))...), true
}

// fitsOf strikes out what the hello offers: nothing may be left.
func fitsOf(h impl.Hello, a impl.Answer) bool {
	left := slices.DeleteFunc(slices.Clone(a.Exts), func(x impl.Ext) bool {
		return tagIsIn(h.Exts, x.Tag) && !isReservedTag(x.Tag)
	})
	return isHelloOf(h) && isAnswerOf(a) && slices.Contains(h.Versions, a.Version) && len(left) == 0
}

// helloText is the same for equal hellos alone: it has brackets about each list.
func helloText(h impl.Hello) string {
	return fmt.Sprint(h)
}

func cloneHello(h impl.Hello) impl.Hello {
	exts := extsOf()
	for _, x := range h.Exts {
		exts = append(exts, ext(x.Tag, slices.Clone(x.Body)...))
	}
	return hello(slices.Clone(h.Versions), exts...)
}

func checkIsHello(t *testing.T, name string, h impl.Hello, want bool) {
	t.Helper()
	if got := impl.IsHello(h); got != want {
		t.Errorf("%s: IsHello(%.200s) is %v", name, helloText(h), got)
	}
}

func checkHelloBytes(t *testing.T, name string, h impl.Hello, want []int) {
	t.Helper()
	if got := impl.HelloBytes(h); !slices.Equal(got, want) {
		t.Errorf("%s: HelloBytes(%.200s) is %.200v, not %.200v", name, helloText(h), fmt.Sprint(got), fmt.Sprint(want))
	}
}

// checkReadHello holds what is read from b against a hello, or against a failure.
func checkReadHello(t *testing.T, name string, b []int, want impl.Hello, done bool) {
	t.Helper()
	got, ok := impl.ReadHello(b)
	if ok != done || helloText(got) != helloText(want) {
		t.Errorf("%s: ReadHello(%.200v) is %.200s, %v, not %.200s, %v", name, fmt.Sprint(b), helloText(got), ok, helloText(want), done)
	}
	if !ok {
		return
	}
	// What is read is valid, and written as the same bytes again.
	checkIsHello(t, name, got, true)
	checkHelloBytes(t, name, got, b)
	checkEqualHellos(t, name, got, want, true)
}

func checkNoHello(t *testing.T, name string, b []int) {
	t.Helper()
	checkReadHello(t, name, b, impl.Hello{}, false)
}

// checkHelloReadings holds the program against helloReadings and reports whether there
// is a hello.
func checkHelloReadings(t *testing.T, name string, b []int) bool {
	t.Helper()
	all := helloReadings(b)
	switch len(all) {
	case 0:
		checkNoHello(t, name, b)
	case 1:
		checkReadHello(t, name, b, all[0], true)
	default:
		t.Fatalf("%s: %v are written as %v", name, all, b)
	}
	return len(all) == 1
}

// checkEqualHellos asks from both sides.
func checkEqualHellos(t *testing.T, name string, a impl.Hello, b impl.Hello, want bool) {
	t.Helper()
	if got, back := impl.EqualHellos(a, b), impl.EqualHellos(b, a); got != want || back != want {
		t.Errorf("%s: EqualHellos(%.200s, %.200s) is %v, and %v the other way round", name, helloText(a), helloText(b), got, back)
	}
}

// checkHello holds all that the program says of one hello against what the test works
// out.
func checkHello(t *testing.T, name string, h impl.Hello) {
	t.Helper()
	want, b := isHelloOf(h), helloBytesOf(h)
	checkIsHello(t, name, h, want)
	checkEqualHellos(t, name, h, cloneHello(h), true)
	if want {
		checkHelloBytes(t, name, h, b)
		checkReadHello(t, name, b, h, true)
		return
	}
	checkHelloBytes(t, name, h, nil)
	// Nobody reads what may not be written.
	if checkHelloReadings(t, name, b) {
		t.Errorf("%s: the test reads %.200s", name, helloText(h))
	}
}

func checkAnswer(t *testing.T, name string, a impl.Answer) {
	t.Helper()
	want := isAnswerOf(a)
	if got := impl.IsAnswer(a); got != want {
		t.Errorf("%s: IsAnswer(%.200v) is %v", name, fmt.Sprint(a), got)
	}
	var b []int
	if want {
		b = answerBytesOf(a)
	}
	if got := impl.AnswerBytes(a); !slices.Equal(got, b) {
		t.Errorf("%s: AnswerBytes(%.200v) is %.200v, not %.200v", name, fmt.Sprint(a), fmt.Sprint(got), fmt.Sprint(b))
	}
}

func checkFits(t *testing.T, name string, h impl.Hello, a impl.Answer, want bool) {
	t.Helper()
	if got := impl.FitsHello(h, a); got != want {
		t.Errorf("%s: FitsHello(%.200s, %.200v) is %v", name, helloText(h), fmt.Sprint(a), got)
	}
}

// checkAnswerTo holds all that the program says of an answer to a hello against what the
// test works out.
func checkAnswerTo(t *testing.T, name string, h impl.Hello, a impl.Answer) {
	t.Helper()
	checkAnswer(t, name, a)
	checkFits(t, name, h, a, fitsOf(h, a))
}

// checkChosen holds what is chosen against an answer, or against a failure.
func checkChosen(t *testing.T, name string, versions []int, tags []int, h impl.Hello, want impl.Answer, done bool) {
	t.Helper()
	got, ok := impl.ChooseAnswer(versions, tags, h)
	if ok != done || got.Version != want.Version || !sameExts(got.Exts, want.Exts) {
		t.Errorf("%s: ChooseAnswer(%.200v, %.200v, %.200s) is %.200v, %v, not %.200v, %v",
			name, fmt.Sprint(versions), fmt.Sprint(tags), helloText(h), fmt.Sprint(got), ok, fmt.Sprint(want), done)
	}
	if ok {
		checkOffered(t, name, versions, tags, h, got)
	}
}

func sameExts(a []impl.Ext, b []impl.Ext) bool {
	return len(a) == len(b) && fmt.Sprint(a) == fmt.Sprint(b)
}

// checkOffered is the promise: the version and each extension were offered and asked
// for, the version is the greatest such one, and no extension is reserved or left out.
func checkOffered(t *testing.T, name string, versions []int, tags []int, h impl.Hello, a impl.Answer) {
	t.Helper()
	for v := a.Version; v <= 9; v++ {
		if common := slices.Contains(versions, v) && slices.Contains(h.Versions, v); common != (v == a.Version) {
			t.Errorf("%s: %d is chosen from %v and %v", name, a.Version, versions, h.Versions)
		}
	}
	rest := a.Exts
	for _, x := range h.Exts {
		if len(rest) > 0 && rest[0].Tag == x.Tag && slices.Equal(rest[0].Body, x.Body) {
			rest = rest[1:]
			if !slices.Contains(tags, x.Tag) || x.Tag%16 == 10 {
				t.Errorf("%s: the Tag %d is chosen from %v by %v", name, x.Tag, h.Exts, tags)
			}
		} else if slices.Contains(tags, x.Tag) && x.Tag%16 != 10 {
			t.Errorf("%s: the Tag %d is not chosen from %v by %v", name, x.Tag, h.Exts, tags)
		}
	}
	if len(rest) > 0 {
		t.Errorf("%s: %v were not offered in %v", name, rest, h.Exts)
	}
	checkFits(t, name, h, a, true)
	checkAnswer(t, name, a)
}

// checkChoice holds the program against choiceOf and reports whether there is an answer.
func checkChoice(t *testing.T, name string, versions []int, tags []int, h impl.Hello) bool {
	t.Helper()
	want, done := choiceOf(versions, tags, h)
	checkChosen(t, name, versions, tags, h, want, done)
	return done
}

// fewVersions returns some valid lists, of one version up to all of them.
func fewVersions() [][]int {
	all := allVersions()
	return [][]int{{1}, {5}, {9}, {1, 2}, {1, 9}, {8, 9}, {2, 5, 8}, {2, 4, 6, 8}, {1, 3, 5, 7, 9}, all[:8], all[1:], all}
}

// offeredExts returns valid lists of extensions: without any, with reserved ones alone,
// with some among others, and with Tags that are also versions.
func offeredExts() [][]impl.Ext {
	return append(someExts(), extsOf(ext(10)), extsOf(ext(250, 1, 2, 3, 4)), extsOf(ext(2, 9), ext(10)), extsOf(ext(10, 7), ext(2, 9)),
		extsOf(ext(9), ext(10), ext(11)), extsOf(ext(26, 1), ext(1), ext(42, 2), ext(2), ext(58, 3), ext(3)),
		extsOf(ext(10, 1), ext(90, 2), ext(170, 3), ext(250, 4), ext(154), ext(122)),
		extsOf(ext(1, 1), ext(2, 2), ext(3, 3)), extsOf(ext(9), ext(8, 8), ext(5, 5, 5), ext(1)))
}

func someHellos() []impl.Hello {
	var hellos []impl.Hello
	for _, versions := range fewVersions() {
		for _, exts := range offeredExts() {
			hellos = append(hellos, hello(versions, exts...))
		}
	}
	return hellos
}

// aboutFifty returns hellos from each part of someHellos.
func aboutFifty() []impl.Hello {
	var few []impl.Hello
	for i, h := range someHellos() {
		if i%17 == 0 {
			few = append(few, h)
		}
	}
	return few
}

// notExts returns lists of extensions that are not valid.
func notExts() [][]impl.Ext {
	return slices.DeleteFunc(slices.Concat(wrongExts(), unfitExts()), isExtList)
}

// noHellos returns hellos that are not valid: by their versions, by their extensions, or
// by both.
func noHellos() []impl.Hello {
	hellos := []impl.Hello{{}}
	for i, versions := range noVersions() {
		for k, exts := range offeredExts() {
			if (i+k)%8 == 0 || len(exts) == 0 {
				hellos = append(hellos, hello(versions, exts...))
			}
		}
		hellos = append(hellos, hello(versions, notExts()[i%len(notExts())]...))
	}
	for _, versions := range fewVersions() {
		for _, exts := range notExts() {
			hellos = append(hellos, hello(versions, exts...))
		}
	}
	return hellos
}

// tagLists returns lists of tags of which an extension may be known.
func tagLists(h impl.Hello) [][]int {
	own := impl.TagsOf(h.Exts)
	back := slices.Clone(own)
	slices.Reverse(back)
	lists := [][]int{
		nil, {}, own, back, slices.Concat(own, own, back), openTags, reservedTags(), slices.Concat(openTags, reservedTags()), {10}, {0}, {2, 10, 9},
		h.Versions, {-1, 256, 257, 1<<32 + 1, math.MinInt, math.MaxInt}, byteLimits(), slices.Concat(own, byteLimits(), reservedTags()),
	}
	for i, tag := range own {
		lists = append(lists, bytesOf(tag), bytesOf(tag, tag), bytesOf(tag+1, tag-1), bytesOf(tag+256, tag-256, tag+1<<32), own[:i], slices.Delete(slices.Clone(own), i, i+1))
	}
	return lists
}

func TestIsHello(t *testing.T) {
	six := extsOf(ext(1), ext(2), ext(3), ext(4), ext(5), ext(6))
	cases := []struct {
		name string
		h    impl.Hello
		want bool
	}{
		{"the zero Hello", impl.Hello{}, false},
		{"extensions without versions", hello(nil, ext(2, 9)), false},
		{"empty versions", hello([]int{}), false},
		{"versions in the spare capacity", hello(bytesOf(1, 2)[:0]), false},
		{"one version, nil extensions", impl.Hello{Versions: bytesOf(1)}, true},
		{"one version, empty extensions", impl.Hello{Versions: bytesOf(1), Exts: extsOf()}, true},
		{"MaxVersion", hello(bytesOf(9)), true},
		{"MaxVersion versions", hello(allVersions()), true},
		{"two versions and extensions", hello(bytesOf(1, 3), ext(2, 9), ext(10)), true},
		{"a version more than there are", hello(append(allVersions(), 10)), false},
		{"a version more in the spare capacity", hello(append(allVersions(), 10)[:9]), true},
		{"a version of 0", hello(bytesOf(0)), false},
		{"a version of 10", hello(bytesOf(10)), false},
		{"a version of -1", hello(bytesOf(-1, 1)), false},
		{"the least version", hello(bytesOf(math.MinInt)), false},
		{"the greatest version", hello(bytesOf(1, math.MaxInt)), false},
		{"a version twice", hello(bytesOf(3, 3)), false},
		{"falling versions", hello(bytesOf(3, 1)), false},
		{"falling versions at the end", hello(bytesOf(1, 2, 4, 3)), false},
		{"falling versions and extensions", hello(bytesOf(3, 1), ext(2, 9)), false},
		{"MaxExts", hello(bytesOf(1), six...), true},
		{"MaxExts with the longest bodies", hello(allVersions(), someExts()[len(someExts())-1]...), true},
		{"one more than MaxExts", hello(bytesOf(1), append(slices.Clone(six), ext(7))...), false},
		{"one more in the spare capacity", hello(bytesOf(1), append(slices.Clone(six), ext(7))[:6]...), true},
		{"reserved extensions alone", hello(bytesOf(1), ext(10), ext(26), ext(250)), true},
		{"a Tag of a version", hello(bytesOf(1, 2), ext(1), ext(2)), true},
		{"a Tag of 255", hello(bytesOf(1), ext(255)), true},
		{"a Tag of 256", hello(bytesOf(1), ext(256)), false},
		{"a Tag of -1", hello(bytesOf(1), ext(1), ext(-1)), false},
		{"a Tag twice", hello(bytesOf(1), ext(5), ext(6), ext(5)), false},
		{"a reserved Tag twice", hello(bytesOf(1), ext(10), ext(10)), false},
		{"a Body of four bytes", hello(bytesOf(1), ext(5, 0, 255, 1, 2)), true},
		{"a Body of five bytes", hello(bytesOf(1), ext(5, 0, 255, 1, 2, 3)), false},
		{"a byte of 256", hello(bytesOf(1), ext(5, 256)), false},
		{"a byte of -1", hello(bytesOf(1), ext(5, 1, -1)), false},
		{"nothing valid", hello(bytesOf(0, 0), ext(-1, -1)), false},
	}
	for _, c := range cases {
		checkIsHello(t, c.name, c.h, c.want)
		checkHello(t, c.name, c.h)
		if isHelloOf(c.h) != c.want {
			t.Errorf("%s: the test holds another answer", c.name)
		}
	}
}

func TestIsAnswer(t *testing.T) {
	for version := -300; version <= 300; version++ {
		checkAnswer(t, "no extensions", answer(version))
		if got := impl.IsAnswer(answer(version)); got != (version >= 1 && version <= 9) {
			t.Errorf("IsAnswer of the version %d is %v", version, got)
		}
	}
	lists := slices.Concat(offeredExts(), notExts())
	for _, version := range versionLimits() {
		for _, exts := range lists {
			checkAnswer(t, "a version and extensions", answer(version, exts...))
		}
	}
	// An answer may be valid and fit no hello.
	for _, a := range []impl.Answer{answer(1, ext(10)), answer(9, ext(26, 1, 2, 3, 4), ext(250)), answer(5, ext(1), ext(10), ext(2))} {
		if !impl.IsAnswer(a) {
			t.Errorf("IsAnswer(%v) is false", a)
		}
	}
	if impl.IsAnswer(impl.Answer{}) || len(impl.AnswerBytes(impl.Answer{})) != 0 {
		t.Error("the zero Answer is valid")
	}
}

func TestHelloBytes(t *testing.T) {
	cases := []struct {
		name string
		h    impl.Hello
		want []int
	}{
		{"one version", hello(bytesOf(1)), bytesOf(1, 1, 0)},
		{"one version and empty extensions", hello(bytesOf(9), extsOf()...), bytesOf(1, 9, 0)},
		{"two versions", hello(bytesOf(2, 7)), bytesOf(2, 2, 7, 0)},
		{"all versions", hello(allVersions()), bytesOf(9, 1, 2, 3, 4, 5, 6, 7, 8, 9, 0)},
		{"a nil Body", hello(bytesOf(3), impl.Ext{Tag: 40}), bytesOf(1, 3, 1, 40, 0)},
		{"an empty Body", hello(bytesOf(3), impl.Ext{Tag: 40, Body: []int{}}), bytesOf(1, 3, 1, 40, 0)},
		{"two versions and two extensions", hello(bytesOf(1, 3), ext(2, 9), ext(10)), bytesOf(2, 1, 3, 2, 2, 1, 9, 10, 0)},
		{"the extensions in another order", hello(bytesOf(1, 3), ext(10), ext(2, 9)), bytesOf(2, 1, 3, 2, 10, 0, 2, 1, 9)},
		{"the greatest bytes", hello(bytesOf(9), ext(255, 255, 255, 255, 255)), bytesOf(1, 9, 1, 255, 4, 255, 255, 255, 255)},
		{"the least bytes", hello(bytesOf(1), ext(0, 0, 0, 0, 0)), bytesOf(1, 1, 1, 0, 4, 0, 0, 0, 0)},
		{"MaxExts", hello(bytesOf(4, 5, 6), ext(6), ext(5), ext(4, 4), ext(3), ext(2), ext(1, 1, 1, 1, 1)),
			bytesOf(3, 4, 5, 6, 6, 6, 0, 5, 0, 4, 1, 4, 3, 0, 2, 0, 1, 4, 1, 1, 1, 1)},
		{"what lies in the spare capacity", hello(bytesOf(1, 2, 3)[:2], extsOf(ext(5, bytesOf(7, 8)[:1]...), ext(6))[:1]...), bytesOf(2, 1, 2, 1, 5, 1, 7)},
	}
	for _, c := range cases {
		checkHelloBytes(t, c.name, c.h, c.want)
		checkReadHello(t, c.name, c.want, c.h, true)
		checkHello(t, c.name, c.h)
	}
}

func TestAnswerBytes(t *testing.T) {
	cases := []struct {
		name string
		a    impl.Answer
		want []int
	}{
		{"the version 1", answer(1), bytesOf(1, 0)},
		{"MaxVersion", answer(9), bytesOf(9, 0)},
		{"MaxVersion and empty extensions", answer(9, extsOf()...), bytesOf(9, 0)},
		{"an extension", answer(3, ext(2, 9)), bytesOf(3, 1, 2, 1, 9)},
		{"a nil Body", answer(3, impl.Ext{Tag: 40}), bytesOf(3, 1, 40, 0)},
		{"a reserved extension", answer(3, ext(10)), bytesOf(3, 1, 10, 0)},
		{"several extensions", answer(9, ext(255, 1, 2, 3, 4), ext(0), ext(7, 0)), bytesOf(9, 3, 255, 4, 1, 2, 3, 4, 0, 0, 7, 1, 0)},
		{"MaxExts", answer(1, ext(6), ext(5), ext(4), ext(3), ext(2), ext(1)), bytesOf(1, 6, 6, 0, 5, 0, 4, 0, 3, 0, 2, 0, 1, 0)},
		{"the zero Answer", impl.Answer{}, nil},
		{"the version 0", answer(0, ext(2, 9)), nil},
		{"the version -1", answer(-1), nil},
		{"the version 10", answer(10), nil},
		{"the least version", answer(math.MinInt), nil},
		{"the greatest version", answer(math.MaxInt), nil},
		{"a version that is 1 modulo 2^32", answer(1<<32 + 1), nil},
		{"too many extensions", answer(1, ext(1), ext(2), ext(3), ext(4), ext(5), ext(6), ext(7)), nil},
		{"a Tag twice", answer(1, ext(5), ext(5)), nil},
		{"a Tag of 256", answer(1, ext(256)), nil},
		{"a byte of -1", answer(1, ext(5, -1)), nil},
		{"a Body of five bytes", answer(1, ext(5, 1, 2, 3, 4, 5)), nil},
	}
	for _, c := range cases {
		if got := impl.AnswerBytes(c.a); !slices.Equal(got, c.want) {
			t.Errorf("%s: AnswerBytes(%v) is %v, not %v", c.name, c.a, got, c.want)
		}
		checkAnswer(t, c.name, c.a)
	}
}

// Other answers have other bytes.
func TestAnswersApart(t *testing.T) {
	met := map[string]string{}
	for version := 1; version <= 9; version++ {
		for _, exts := range offeredExts() {
			a := answer(version, exts...)
			key, text := fmt.Sprint(impl.AnswerBytes(a)), fmt.Sprint(a)
			if other, ok := met[key]; ok && other != text {
				t.Errorf("%s and %s are both %s", other, text, key)
			}
			met[key] = text
		}
	}
}

func TestReadHello(t *testing.T) {
	cases := []struct {
		name string
		b    []int
		want impl.Hello
	}{
		{"one version", bytesOf(1, 1, 0), hello(bytesOf(1))},
		{"MaxVersion", bytesOf(1, 9, 0), hello(bytesOf(9))},
		{"all versions", bytesOf(9, 1, 2, 3, 4, 5, 6, 7, 8, 9, 0), hello(allVersions())},
		{"an extension without a Body", bytesOf(1, 4, 1, 40, 0), hello(bytesOf(4), ext(40))},
		{"the longest Body", bytesOf(1, 4, 1, 5, 4, 0, 255, 1, 2), hello(bytesOf(4), ext(5, 0, 255, 1, 2))},
		{"reserved extensions alone", bytesOf(2, 1, 2, 2, 10, 0, 250, 1, 7), hello(bytesOf(1, 2), ext(10), ext(250, 7))},
		{"MaxExts", bytesOf(1, 1, 6, 1, 0, 2, 0, 3, 0, 4, 0, 5, 0, 6, 0), hello(bytesOf(1), ext(1), ext(2), ext(3), ext(4), ext(5), ext(6))},
		{"a hello before spare capacity", bytesOf(1, 1, 0, 5)[:3], hello(bytesOf(1))},
	}
	for _, c := range cases {
		checkReadHello(t, c.name, c.b, c.want, true)
		checkHelloReadings(t, c.name, c.b)
		for size := range c.b {
			checkNoHello(t, c.name+", a beginning", c.b[:size])
		}
		for _, n := range append(byteLimits(), len(c.b)) {
			checkNoHello(t, c.name+", more", append(slices.Clone(c.b), n))
		}
	}
}

func TestReadNoHello(t *testing.T) {
	cases := map[string][]int{
		"nil":                                  nil,
		"no bytes":                             {},
		"a hello in the spare capacity":        bytesOf(1, 1, 0)[:0],
		"no versions":                          {0},
		"no versions, no extensions":           {0, 0},
		"no versions, a version":               {0, 1, 0},
		"a number of versions alone":           {1},
		"a version alone":                      {1, 1},
		"a version of two":                     {2, 1},
		"a version of two, no extensions":      {2, 1, 0},
		"the extensions in the spare capacity": bytesOf(1, 1, 0)[:2],
		"a number below 0":                     {-1, 1, 0},
		"a number below 0 alone":               {-1},
		"a number that reaches back":           {-2, 1, 2, 0},
		"the least number":                     {math.MinInt, 1, 0},
		"the greatest number":                  {math.MaxInt, 1, 0},
		"a number that is 1 modulo 256":        {257, 1, 0},
		"a number that is 1 modulo 2^32":       {1<<32 + 1, 1, 0},
		"ten versions":                         {10, 1, 2, 3, 4, 5, 6, 7, 8, 9, 10, 0},
		"ten versions from 0":                  {10, 0, 1, 2, 3, 4, 5, 6, 7, 8, 9, 0},
		"ten versions, one twice":              {10, 1, 2, 3, 4, 5, 6, 7, 8, 9, 9, 0},
		"ten versions, nine there":             {10, 1, 2, 3, 4, 5, 6, 7, 8, 9, 0},
		"nine versions, ten there":             {9, 1, 2, 3, 4, 5, 6, 7, 8, 9, 10, 0},
		"falling versions":                     {2, 3, 1, 0},
		"falling versions at the end":          {4, 1, 2, 4, 3, 0},
		"a version twice":                      {2, 3, 3, 0},
		"a version of 0":                       {1, 0, 0},
		"a version of 0 at the front":          {2, 0, 1, 0},
		"a version of 10":                      {1, 10, 0},
		"a version of 10 at the end":           {2, 9, 10, 0},
		"a version of -1":                      {1, -1, 0},
		"a version of 256":                     {1, 256, 0},
		"a version of 257":                     {1, 257, 0},
		"the least version":                    {1, math.MinInt, 0},
		"the greatest version":                 {1, math.MaxInt, 0},
		"an extension that is missing":         {1, 1, 1},
		"a Tag alone":                          {1, 1, 1, 5},
		"a Body that is missing":               {1, 1, 1, 5, 1},
		"a Body in the spare capacity":         bytesOf(1, 1, 1, 5, 1, 7)[:5],
		"a Body that ends too early":           {1, 1, 1, 5, 4, 1, 2, 3},
		"a second extension that is missing":   {1, 1, 2, 5, 0},
		"a 0 behind the end":                   {1, 1, 0, 0},
		"an extension behind the end":          {1, 1, 0, 5, 0},
		"a hello behind the end":               {1, 1, 0, 1, 1, 0},
		"a byte behind the Body":               {1, 1, 1, 5, 1, 7, 8},
		"a number of extensions below 0":       {1, 1, -1},
		"seven extensions":                     {1, 1, 7, 1, 0, 2, 0, 3, 0, 4, 0, 5, 0, 6, 0, 7, 0},
		"the greatest number of extensions":    {1, 1, math.MaxInt},
		"the least number of extensions":       {1, 1, math.MinInt},
		"a Tag of 256":                         {1, 1, 1, 256, 0},
		"a Tag of -1":                          {1, 1, 1, -1, 0},
		"the greatest Tag":                     {1, 1, 1, math.MaxInt, 0},
		"a Tag twice":                          {1, 1, 2, 5, 0, 5, 0},
		"a reserved Tag twice":                 {1, 1, 3, 10, 0, 5, 0, 10, 0},
		"a Body of five bytes":                 {1, 1, 1, 5, 5, 1, 2, 3, 4, 5},
		"a length below 0":                     {1, 1, 1, 5, -1},
		"the greatest length":                  {1, 1, 1, 5, math.MaxInt, 1},
		"a byte of 256":                        {1, 1, 1, 5, 1, 256},
		"a byte of -1":                         {1, 1, 1, 5, 1, -1},
		"the least byte":                       {1, 1, 1, 5, 1, math.MinInt},
		"an answer":                            {3, 1, 2, 1, 9},
		"extensions alone":                     {2, 2, 1, 9, 10, 0},
		"versions behind the extensions":       {0, 1, 1},
		"versions without their number":        {2, 7, 0},
		"zeros":                                make([]int, 20),
		"extensions behind no versions":        {0, 2, 2, 1, 9, 10, 0},
	}
	for name, b := range cases {
		checkNoHello(t, name, b)
		if len(helloReadings(b)) != 0 {
			t.Errorf("%s: the test reads %v", name, b)
		}
	}
}

// shortHellos returns every hello with bytes of an alphabet that may be written in so
// many.
func shortHellos(alphabet []int, most int) []impl.Hello {
	var hellos []impl.Hello
	for _, versions := range everyVersions {
		for _, exts := range shortExts(alphabet, most-len(versions)-1) {
			h := hello(versions, exts...)
			isForeign := func(n int) bool { return !slices.Contains(alphabet, n) }
			if b := helloBytesOf(h); len(b) <= most && !slices.ContainsFunc(b, isForeign) {
				hellos = append(hellos, h)
			}
		}
	}
	return hellos
}

// Every short list of bytes is either how the test writes a hello that it builds itself
// or it is not accepted.
func TestReadEveryShortHello(t *testing.T) {
	cases := []struct {
		alphabet []int
		most     int
	}{{bytesOf(0, 1, 2), 8}, {bytesOf(0, 1, 2, 3), 7}, {bytesOf(-1, 0, 1, 2, 9, 10, 256), 5}, {byteLimits(), 3}}
	for _, c := range cases {
		written := map[string]impl.Hello{}
		for _, h := range shortHellos(c.alphabet, c.most) {
			written[fmt.Sprint(helloBytesOf(h))] = h
		}
		accepted := 0
		eachList(c.alphabet, c.most, func(b []int) {
			want, ok := written[fmt.Sprint(b)]
			checkReadHello(t, "a short list", b, want, ok)
			if ok {
				accepted++
			}
		})
		if accepted == 0 || accepted != len(written) {
			t.Errorf("%d lists of %v are accepted, not %d", accepted, c.alphabet, len(written))
		}
	}
}

func TestHellosAreReadAsWritten(t *testing.T) {
	met := map[string]string{}
	for _, h := range someHellos() {
		checkHello(t, "a hello", h)
		b := helloBytesOf(h)
		for size := range b {
			checkNoHello(t, "a beginning", b[:size])
		}
		for _, tail := range [][]int{{0}, {1}, {-1}, {255}, {256}, {5, 0}, {math.MinInt}, {math.MaxInt}, b, make([]int, 1000)} {
			checkNoHello(t, "its bytes and more", slices.Concat(b, tail))
		}
		key, text := fmt.Sprint(b), helloText(h)
		if other, ok := met[key]; ok && other != text {
			t.Errorf("%s and %s are both %v", other, text, b)
		}
		met[key] = text
	}
	if len(met) < 500 {
		t.Errorf("there are only %d hellos", len(met))
	}
}

// All versions that there may be are offered, with and without extensions.
func TestEveryListOfVersionsInAHello(t *testing.T) {
	for _, versions := range everyVersions {
		for _, exts := range [][]impl.Ext{nil, {ext(2, 9), ext(10)}, someExts()[len(someExts())-1]} {
			checkHello(t, "every list of versions", hello(versions, exts...))
		}
	}
}

func TestNoHellos(t *testing.T) {
	for _, h := range noHellos() {
		checkIsHello(t, "not valid", h, false)
		checkHello(t, "not valid", h)
	}
}

// A hello with one number changed, left out or added is none or another one.
func TestSpoiledHellos(t *testing.T) {
	read, refused := 0, 0
	check := func(name string, h impl.Hello, b []int) {
		t.Helper()
		if !checkHelloReadings(t, name, b) {
			refused++
			return
		}
		read++
		got, _ := impl.ReadHello(b)
		checkEqualHellos(t, name, got, h, slices.Equal(b, helloBytesOf(h)))
	}
	for _, h := range aboutFifty() {
		b := helloBytesOf(h)
		for i := range b {
			check("a number left out", h, slices.Delete(slices.Clone(b), i, i+1))
			for _, n := range append(byteLimits(), b[i]-1, b[i]+1, b[i]+256, b[i]-256, b[i]+1<<32, 7, 8, 9, 11) {
				changed := slices.Clone(b)
				changed[i] = n
				check("a number changed", h, changed)
				check("a number added", h, slices.Insert(slices.Clone(b), i, n))
			}
		}
	}
	if read < 500 || refused < 5000 {
		t.Errorf("%d lists are read and %d are refused", read, refused)
	}
}

// eachHelloChange calls use with hellos in which one number is another one, or there is
// a version, an extension or a byte more or less.
func eachHelloChange(h impl.Hello, use func(changed impl.Hello)) {
	for i, v := range h.Versions {
		use(hello(slices.Delete(slices.Clone(h.Versions), i, i+1), h.Exts...))
		for _, n := range append(versionLimits(), v-1, v+1) {
			changed := slices.Clone(h.Versions)
			changed[i] = n
			use(hello(changed, h.Exts...))
			use(hello(slices.Insert(slices.Clone(h.Versions), i, n), h.Exts...))
		}
	}
	use(hello(append(slices.Clone(h.Versions), 9), h.Exts...))
	eachExtChange(h.Exts, func(exts []impl.Ext) { use(hello(h.Versions, exts...)) })
}

func TestHellosWithOneChange(t *testing.T) {
	for i, h := range aboutFifty() {
		right, wrong := 0, 0
		eachHelloChange(h, func(changed impl.Hello) {
			if isHelloOf(changed) {
				right++
			} else {
				wrong++
			}
			if i%4 == 0 {
				checkHello(t, "a change", changed)
			}
			checkIsHello(t, "a change", changed, isHelloOf(changed))
			checkEqualHellos(t, "a change", h, changed, helloText(h) == helloText(changed))
		})
		if right == 0 || wrong == 0 {
			t.Errorf("of the changes of %v, %d are right and %d are not", h, right, wrong)
		}
	}
}

func TestChooseAnswer(t *testing.T) {
	h := hello(bytesOf(1, 3, 5), ext(2, 9), ext(10, 1), ext(40), ext(7, 1, 2, 3, 4))
	plain := hello(bytesOf(1, 9))
	six := extsOf(ext(6), ext(5, 1), ext(4, 1, 2), ext(3, 1, 2, 3), ext(2, 1, 2, 3, 4), ext(1))
	cases := []struct {
		name           string
		versions, tags []int
		h              impl.Hello
		want           impl.Answer
	}{
		{"no tags", bytesOf(1, 2, 3), nil, h, answer(3)},
		{"empty tags", bytesOf(1), []int{}, h, answer(1)},
		{"one tag", bytesOf(5), bytesOf(2), h, answer(5, ext(2, 9))},
		{"a tag without a Body", bytesOf(5), bytesOf(40), h, answer(5, ext(40))},
		{"tags in another order", bytesOf(1, 5), bytesOf(7, 40, 2), h, answer(5, ext(2, 9), ext(40), ext(7, 1, 2, 3, 4))},
		{"a reserved tag", bytesOf(1, 3), bytesOf(10), h, answer(3)},
		{"a reserved tag and another one", bytesOf(1, 3), bytesOf(10, 7), h, answer(3, ext(7, 1, 2, 3, 4))},
		{"all reserved tags", bytesOf(3), reservedTags(), h, answer(3)},
		{"a tag twice", bytesOf(3), bytesOf(40, 40), h, answer(3, ext(40))},
		{"a tag that is not there", bytesOf(3), bytesOf(8), h, answer(3)},
		{"tags that are there and not", bytesOf(3), bytesOf(8, 2, 9, 1), h, answer(3, ext(2, 9))},
		{"tags that are versions", bytesOf(3), bytesOf(1, 3, 5), h, answer(3)},
		{"tags that are there modulo 256", bytesOf(3), bytesOf(258, -254, 1<<32+2), h, answer(3)},
		{"the least and the greatest tag", bytesOf(3), bytesOf(math.MinInt, math.MaxInt, 40), h, answer(3, ext(40))},
		{"tags in the spare capacity", bytesOf(3), bytesOf(2, 40)[:1], h, answer(3, ext(2, 9))},
		{"all tags", allVersions(), openTags, h, answer(5, ext(2, 9), ext(40), ext(7, 1, 2, 3, 4))},
		{"one common version", bytesOf(3, 4), bytesOf(2), h, answer(3, ext(2, 9))},
		{"the least common version", bytesOf(1, 2, 4, 6), nil, h, answer(1)},
		{"the same versions", bytesOf(1, 3, 5), nil, h, answer(5)},
		{"a greater version on one side", bytesOf(1, 3, 9), nil, h, answer(3)},
		{"a version in the spare capacity", bytesOf(1, 3)[:1], nil, h, answer(1)},
		{"no extensions", bytesOf(1, 2), bytesOf(1, 2), plain, answer(1)},
		{"no extensions, MaxVersion", allVersions(), openTags, plain, answer(9)},
		{"all versions on both sides", allVersions(), nil, hello(allVersions()), answer(9)},
		{"reserved extensions alone", bytesOf(2), bytesOf(10, 26, 42), hello(bytesOf(2), ext(26, 1), ext(10)), answer(2)},
		{"MaxExts", bytesOf(4), bytesOf(1, 2, 3, 4, 5, 6), hello(bytesOf(4), six...), answer(4, six...)},
		{"MaxExts, some of them", bytesOf(4), bytesOf(5, 2), hello(bytesOf(4), six...), answer(4, ext(5, 1), ext(2, 1, 2, 3, 4))},

		{"nothing in common", bytesOf(2), bytesOf(2), h, impl.Answer{}},
		{"versions between", bytesOf(2, 4, 6, 7, 8, 9), bytesOf(2), h, impl.Answer{}},
		{"nil versions", nil, bytesOf(2), h, impl.Answer{}},
		{"empty versions", []int{}, bytesOf(2), h, impl.Answer{}},
		{"versions in the spare capacity", bytesOf(1, 3)[:0], bytesOf(2), h, impl.Answer{}},
		{"falling versions", bytesOf(3, 1), bytesOf(2), h, impl.Answer{}},
		{"a version twice", bytesOf(3, 3), bytesOf(2), h, impl.Answer{}},
		{"a version of 0", bytesOf(0, 3), bytesOf(2), h, impl.Answer{}},
		{"a version of 10", bytesOf(3, 10), bytesOf(2), h, impl.Answer{}},
		{"the least version", bytesOf(math.MinInt, 3), bytesOf(2), h, impl.Answer{}},
		{"the greatest version", bytesOf(3, math.MaxInt), bytesOf(2), h, impl.Answer{}},
		{"the zero Hello", bytesOf(1), bytesOf(2), impl.Hello{}, impl.Answer{}},
		{"a hello without versions", bytesOf(1), bytesOf(2), hello(nil, ext(2, 9)), impl.Answer{}},
		{"a hello with falling versions", bytesOf(1), bytesOf(2), hello(bytesOf(3, 1), ext(2, 9)), impl.Answer{}},
		{"a hello with a version of 10", bytesOf(1), bytesOf(2), hello(bytesOf(1, 10), ext(2, 9)), impl.Answer{}},
		{"both with a version of 10", bytesOf(1, 10), bytesOf(2), hello(bytesOf(1, 10), ext(2, 9)), impl.Answer{}},
		{"both with a version of 0", bytesOf(0), bytesOf(2), hello(bytesOf(0), ext(2, 9)), impl.Answer{}},
		{"a hello with a Tag twice", bytesOf(1), bytesOf(2), hello(bytesOf(1), ext(2, 9), ext(2, 8)), impl.Answer{}},
		{"a hello with a Tag twice that is not asked for", bytesOf(1), bytesOf(2), hello(bytesOf(1), ext(2, 9), ext(5), ext(5)), impl.Answer{}},
		{"a hello with a reserved Tag twice", bytesOf(1), bytesOf(2), hello(bytesOf(1), ext(10), ext(10), ext(2)), impl.Answer{}},
		{"a hello with a Tag of 256", bytesOf(1), bytesOf(2), hello(bytesOf(1), ext(2, 9), ext(256)), impl.Answer{}},
		{"a hello with a byte of -1", bytesOf(1), bytesOf(2), hello(bytesOf(1), ext(2, 9), ext(5, -1)), impl.Answer{}},
		{"a hello with a Body of five bytes", bytesOf(1), bytesOf(2), hello(bytesOf(1), ext(2, 1, 2, 3, 4, 5)), impl.Answer{}},
		{"a hello with seven extensions", bytesOf(4), nil, hello(bytesOf(4), append(slices.Clone(six), ext(7))...), impl.Answer{}},
	}
	for _, c := range cases {
		checkChosen(t, c.name, c.versions, c.tags, c.h, c.want, c.want.Version != 0)
		if checkChoice(t, c.name, c.versions, c.tags, c.h) != (c.want.Version != 0) {
			t.Errorf("%s: the test holds another answer", c.name)
		}
	}
}

// Of every two lists of versions, the greatest common one is chosen.
func TestChooseFromEveryTwoVersions(t *testing.T) {
	for _, offered := range everyVersions {
		h := hello(offered)
		for _, versions := range everyVersions {
			best := bestOf(versions, offered)
			got, ok := impl.ChooseAnswer(versions, nil, h)
			if got.Version != best || ok != (best != 0) || len(got.Exts) != 0 || impl.FitsHello(h, got) != ok {
				t.Fatalf("ChooseAnswer(%v, nil, %v) is %v, %v, not %d", versions, h, got, ok, best)
			}
		}
	}
}

// Of six extensions, every choice of tags chooses its own, without the reserved ones.
func TestChooseEveryFewTags(t *testing.T) {
	lists := [][]impl.Ext{
		{ext(1), ext(2, 2), ext(3, 3, 3), ext(4), ext(5, 5), ext(6)}, {ext(10), ext(2, 2), ext(26, 3), ext(4), ext(250, 5), ext(255)},
		{ext(10), ext(26), ext(42), ext(58), ext(74), ext(90)}, {ext(0, 0, 0, 0, 0), ext(9), ext(8), ext(11), ext(10, 7), ext(128)},
	}
	for _, l := range lists {
		for count := range 7 {
			h := hello(bytesOf(1, 5), l[:count]...)
			for chosen := range 1 << 6 {
				var tags []int
				for i, x := range l {
					if chosen>>i&1 == 1 {
						tags = append(bytesOf(x.Tag), tags...)
					}
				}
				checkChoice(t, "a choice of tags", bytesOf(1, 2), tags, h)
				checkChoice(t, "a choice of tags, each twice", bytesOf(5), slices.Concat(tags, tags), h)
				checkChoice(t, "a choice of tags, among others", bytesOf(4, 5), slices.Concat(bytesOf(200, 10), tags, bytesOf(-1)), h)
			}
		}
	}
}

func TestAnswersChooseWhatWasOffered(t *testing.T) {
	answered, refused := 0, 0
	for _, h := range someHellos() {
		for i, tags := range tagLists(h) {
			versions := slices.Concat(fewVersions(), noVersions())
			for _, versions := range [][]int{h.Versions, allVersions(), versions[i%len(versions)], versions[(i*7+len(h.Exts))%len(versions)]} {
				if checkChoice(t, "a hello", versions, tags, h) {
					answered++
				} else {
					refused++
				}
			}
		}
	}
	if answered < 10000 || refused < 5000 {
		t.Errorf("%d hellos are answered and %d are not", answered, refused)
	}
}

func TestNoHellosAreAnswered(t *testing.T) {
	for _, h := range noHellos() {
		for _, tags := range [][]int{nil, impl.TagsOf(h.Exts), openTags} {
			for _, versions := range [][]int{h.Versions, allVersions(), bytesOf(1), bytesOf(9), nil} {
				checkChosen(t, "not valid", versions, tags, h, impl.Answer{}, false)
			}
		}
		for _, version := range append(allVersions(), h.Versions...) {
			checkFits(t, "not valid", h, answer(version), false)
			checkFits(t, "not valid", h, answer(version, h.Exts...), false)
		}
	}
	for _, h := range aboutFifty() {
		for _, versions := range noVersions() {
			checkChosen(t, "no versions", versions, impl.TagsOf(h.Exts), h, impl.Answer{}, false)
		}
	}
}

// smallLists returns every list of at most two extensions of a few.
func smallLists() [][]impl.Ext {
	few := extsOf(ext(1), ext(2, 9), ext(10, 3), ext(26), ext(-1))
	var lists [][]impl.Ext
	eachList(bytesOf(0, 1, 2, 3, 4), 2, func(chosen []int) {
		l := extsOf()
		for _, i := range chosen {
			l = append(l, few[i])
		}
		lists = append(lists, l)
	})
	return lists
}

// Every small hello is held against every small answer, and answered with every few
// versions and tags.
func TestEverySmallHello(t *testing.T) {
	fit, chosen, asked := 0, 0, 0
	eachList(bytesOf(0, 1, 2, 9), 2, func(offered []int) {
		for _, exts := range smallLists() {
			h := hello(offered, exts...)
			checkHello(t, "small", h)
			for _, others := range smallLists() {
				for _, version := range bytesOf(0, 1, 2, 9, 10) {
					a := answer(version, others...)
					checkFits(t, "small", h, a, fitsOf(h, a))
					if fitsOf(h, a) {
						fit++
					}
				}
			}
			for _, versions := range [][]int{{}, {1}, {1, 2}, {2, 9}, {9, 1}, {1, 9, 10}} {
				for _, tags := range [][]int{{}, {1}, {2, 10}, {10, 1, 26, 2}, {-1, 1}} {
					asked++
					if checkChoice(t, "small", versions, tags, h) {
						chosen++
					}
				}
			}
		}
	})
	if fit < 100 || chosen < 500 || asked < 10000 {
		t.Errorf("%d answers fit, and %d of %d are chosen", fit, chosen, asked)
	}
}

func TestFitsHello(t *testing.T) {
	h := hello(bytesOf(1, 3), ext(2, 9), ext(10), ext(40))
	plain := hello(bytesOf(3))
	cases := []struct {
		name string
		h    impl.Hello
		a    impl.Answer
		want bool
	}{
		{"no extensions", h, answer(1), true},
		{"no extensions, the greatest version", h, answer(3), true},
		{"empty extensions", h, answer(3, extsOf()...), true},
		{"an extension", h, answer(3, ext(2, 9)), true},
		{"two extensions", h, answer(1, ext(2, 9), ext(40)), true},
		{"two extensions in another order", h, answer(1, ext(40), ext(2, 9)), true},
		{"another Body", h, answer(3, ext(2, 8, 7)), true},
		{"no Body", h, answer(3, ext(2)), true},
		{"no extensions on either side", plain, answer(3), true},
		{"a Tag in the spare capacity", h, answer(3, extsOf(ext(2, 9), ext(5))[:1]...), true},
		{"the zero Answer", h, impl.Answer{}, false},
		{"the zero Hello", impl.Hello{}, answer(1), false},
		{"both zero", impl.Hello{}, impl.Answer{}, false},
		{"a version between", h, answer(2), false},
		{"a version above", h, answer(4), false},
		{"a version that is a Tag", h, answer(2, ext(2)), false},
		{"a version that is a Tag of both", hello(bytesOf(3), ext(1)), answer(1, ext(1)), false},
		{"a version of 0", h, answer(0), false},
		{"a version of 10, the reserved Tag", h, answer(10), false},
		{"the least version", h, answer(math.MinInt), false},
		{"the greatest version", h, answer(math.MaxInt), false},
		{"a Tag that is not offered", h, answer(3, ext(5)), false},
		{"a Tag that is not offered, behind another one", h, answer(3, ext(2, 9), ext(5)), false},
		{"a Tag that is not offered, in front of another one", h, answer(3, ext(5), ext(2, 9)), false},
		{"a Tag that is a version", h, answer(3, ext(1)), false},
		{"a Tag that is the version chosen", h, answer(3, ext(3)), false},
		{"a Tag that is a byte of a Body", h, answer(3, ext(9)), false},
		{"a Tag of nobody", plain, answer(3, ext(2)), false},
		{"a Tag of 0", h, answer(3, ext(0)), false},
		{"a reserved Tag", h, answer(3, ext(10)), false},
		{"a reserved Tag behind another one", h, answer(3, ext(2, 9), ext(10)), false},
		{"a reserved Tag in front of another one", h, answer(3, ext(10), ext(40)), false},
		{"a reserved Tag that is not offered", h, answer(3, ext(26)), false},
		{"reserved Tags alone on both sides", hello(bytesOf(3), ext(26), ext(42)), answer(3, ext(26)), false},
		{"all that was offered", h, answer(3, h.Exts...), false},
		{"a Tag twice", h, answer(3, ext(2), ext(2)), false},
		{"a Tag of 258", h, answer(3, ext(258)), false},
		{"a Tag of 256, also offered", hello(bytesOf(3), ext(256)), answer(3, ext(256)), false},
		{"a byte of 256", h, answer(3, ext(2, 256)), false},
		{"a Body of five bytes", h, answer(3, ext(2, 1, 2, 3, 4, 5)), false},
		{"seven extensions", h, answer(3, ext(2), ext(40), ext(2), ext(40), ext(2), ext(40), ext(2)), false},
		{"a hello with falling versions", hello(bytesOf(3, 1)), answer(3), false},
		{"a hello with a version of 10", hello(bytesOf(3, 10)), answer(3), false},
		{"both with the version 10", hello(bytesOf(10)), answer(10), false},
		{"both with the version 0", hello(bytesOf(0)), answer(0), false},
		{"a hello with a Tag twice", hello(bytesOf(3), ext(2), ext(2)), answer(3), false},
		{"a hello with a Body of five bytes", hello(bytesOf(3), ext(2, 1, 2, 3, 4, 5)), answer(3), false},
		{"a hello with versions in the spare capacity", hello(bytesOf(1, 3)[:1]), answer(3), false},
		{"a hello with a Tag in the spare capacity", hello(bytesOf(3), extsOf(ext(2), ext(5))[:1]...), answer(3, ext(5)), false},
	}
	for _, c := range cases {
		checkFits(t, c.name, c.h, c.a, c.want)
		if fitsOf(c.h, c.a) != c.want {
			t.Errorf("%s: the test holds another answer", c.name)
		}
		checkAnswer(t, c.name, c.a)
	}
}

// answersAbout returns answers to a hello that fit it, and such that miss it by little.
func answersAbout(h impl.Hello) []impl.Answer {
	open, best := stripped(h.Exts), slices.Max(h.Versions)
	var answers []impl.Answer
	for _, version := range versionLimits() {
		answers = append(answers, answer(version), answer(version, open...), answer(version, h.Exts...))
	}
	for _, exts := range slices.Concat(offeredExts(), notExts()) {
		answers = append(answers, answer(best, exts...))
	}
	for i := range open {
		answers = append(answers, answer(best, open[i]), answer(best, open[:i]...), answer(best, open[i:]...), answer(best, append(slices.Clone(open), open[i])...))
	}
	eachExtChange(open, func(exts []impl.Ext) { answers = append(answers, answer(best, exts...)) })
	return answers
}

func TestAnswersAboutHellos(t *testing.T) {
	fit, unfit := 0, 0
	for _, h := range aboutFifty() {
		for _, a := range answersAbout(h) {
			checkAnswerTo(t, "about a hello", h, a)
			if fitsOf(h, a) {
				fit++
			} else {
				unfit++
			}
		}
		// Every Tag alone.
		for tag := -2; tag <= 300; tag++ {
			checkFits(t, "a Tag alone", h, answer(h.Versions[0], ext(tag)), tagIsIn(h.Exts, tag) && tag%16 != 10)
		}
	}
	if fit < 1000 || unfit < 5000 {
		t.Errorf("%d answers fit and %d do not", fit, unfit)
	}
}

// Versions and tags are numbers of two kinds, of which the one does not offer the other.
func TestVersionsAreNoTags(t *testing.T) {
	for version := 1; version <= 9; version++ {
		for tag := range 11 {
			h := hello(bytesOf(version), ext(tag))
			for chosen := 1; chosen <= 9; chosen++ {
				checkFits(t, "a version", h, answer(chosen), chosen == version)
				checkFits(t, "the Tag too", h, answer(chosen, ext(tag)), chosen == version && tag != 10)
				for other := range 11 {
					checkFits(t, "another Tag", h, answer(chosen, ext(other)), chosen == version && other == tag && tag != 10)
				}
				checkChoice(t, "a version", bytesOf(chosen), bytesOf(version, chosen), h)
			}
		}
	}
}

func TestEqualHellos(t *testing.T) {
	h := hello(bytesOf(1, 3), ext(2, 9), ext(10))
	cases := []struct {
		name string
		a, b impl.Hello
		want bool
	}{
		{"the same", h, h, true},
		{"equal", h, hello(bytesOf(1, 3), ext(2, 9), ext(10)), true},
		{"both zero", impl.Hello{}, impl.Hello{}, true},
		{"nil and empty lists", impl.Hello{}, impl.Hello{Versions: []int{}, Exts: extsOf()}, true},
		{"nil and empty extensions", hello(bytesOf(1)), hello(bytesOf(1), extsOf()...), true},
		{"nil and empty versions", hello(nil, ext(1)), hello([]int{}, ext(1)), true},
		{"a nil Body and an empty one", hello(bytesOf(1), impl.Ext{Tag: 1}), hello(bytesOf(1), impl.Ext{Tag: 1, Body: []int{}}), true},
		{"before spare capacity", hello(bytesOf(1, 2)[:1], extsOf(ext(1), ext(2))[:1]...), hello(bytesOf(1, 3)[:1], extsOf(ext(1), ext(3))[:1]...), true},
		{"falling versions", hello(bytesOf(3, 1)), hello(bytesOf(3, 1)), true},
		{"versions that are none", hello(bytesOf(0, -1, 300, 300)), hello(bytesOf(0, -1, 300, 300)), true},
		{"extensions that are none", hello(nil, ext(-1, 256), ext(-1, 256)), hello(nil, ext(-1, 256), ext(-1, 256)), true},
		{"too many versions", hello(make([]int, 20)), hello(make([]int, 20)), true},
		{"too many extensions", hello(nil, make([]impl.Ext, 9)...), hello(nil, make([]impl.Ext, 9)...), true},
		{"the least and the greatest int", hello(bytesOf(math.MinInt, math.MaxInt)), hello(bytesOf(math.MinInt, math.MaxInt)), true},
		{"zero and a version", impl.Hello{}, hello(bytesOf(0)), false},
		{"zero and an extension", impl.Hello{}, hello(nil, ext(0)), false},
		{"another first version", h, hello(bytesOf(2, 3), ext(2, 9), ext(10)), false},
		{"another last version", h, hello(bytesOf(1, 4), ext(2, 9), ext(10)), false},
		{"a version less", h, hello(bytesOf(1), ext(2, 9), ext(10)), false},
		{"a version more", h, hello(bytesOf(1, 3, 9), ext(2, 9), ext(10)), false},
		{"no versions", h, hello(nil, ext(2, 9), ext(10)), false},
		{"another order of versions", h, hello(bytesOf(3, 1), ext(2, 9), ext(10)), false},
		{"another Tag", h, hello(bytesOf(1, 3), ext(2, 9), ext(26)), false},
		{"another byte", h, hello(bytesOf(1, 3), ext(2, 8), ext(10)), false},
		{"a byte less", h, hello(bytesOf(1, 3), ext(2), ext(10)), false},
		{"a byte more", h, hello(bytesOf(1, 3), ext(2, 9), ext(10, 0)), false},
		{"another order of extensions", h, hello(bytesOf(1, 3), ext(10), ext(2, 9)), false},
		{"an extension less", h, hello(bytesOf(1, 3), ext(2, 9)), false},
		{"a reserved extension more", h, hello(bytesOf(1, 3), ext(2, 9), ext(10), ext(26)), false},
		{"no extensions", h, hello(bytesOf(1, 3)), false},
		{"a number of the other list", hello(bytesOf(1), ext(2)), hello(bytesOf(2), ext(1)), false},
		{"equal modulo 256", hello(bytesOf(1)), hello(bytesOf(257)), false},
		{"equal low bits", hello(bytesOf(1), ext(1)), hello(bytesOf(1), ext(1<<32+1)), false},
		{"the least or the greatest int", hello(bytesOf(math.MinInt)), hello(bytesOf(math.MaxInt)), false},
		{"versions that are none, another one", hello(bytesOf(0, -1, 300)), hello(bytesOf(0, -1, 301)), false},
		{"others of too many", hello(make([]int, 20)), hello(make([]int, 21)), false},
	}
	for _, c := range cases {
		checkEqualHellos(t, c.name, c.a, c.b, c.want)
		if (helloText(c.a) == helloText(c.b)) != c.want {
			t.Errorf("%s: the test holds another answer", c.name)
		}
	}
	hellos := slices.Concat(aboutFifty(), noHellos()[:100], aboutFifty())
	for _, a := range hellos {
		for _, b := range hellos {
			checkEqualHellos(t, "any two", a, b, helloText(a) == helloText(b))
		}
	}
}

// extsByChance returns extensions with few tags, so that two lists often share some, and
// now and then a number that is no byte.
func extsByChance(pick *rand.Rand) []impl.Ext {
	l := extsOf()
	for _, i := range pick.Perm(12)[:pick.IntN(7)] {
		x := ext(bytesOf(0, 1, 2, 5, 9, 10, 11, 26, 58, 128, 250, 255)[i])
		for range pick.IntN(5) {
			x.Body = append(x.Body, pick.IntN(256))
		}
		if pick.IntN(40) == 0 {
			x.Tag = byteLimits()[pick.IntN(len(byteLimits()))]
		}
		l = append(l, x)
	}
	return l
}

func versionsByChance(pick *rand.Rand) []int {
	if pick.IntN(10) == 0 {
		return noVersions()[pick.IntN(len(noVersions()))]
	}
	return everyVersions[pick.IntN(len(everyVersions))]
}

func TestHellosByChance(t *testing.T) {
	answered, fit := 0, 0
	for seed := range 4000 {
		pick := chance(seed)
		h, other := hello(versionsByChance(pick), extsByChance(pick)...), hello(versionsByChance(pick), extsByChance(pick)...)
		checkHello(t, "by chance", h)
		checkEqualHellos(t, "by chance", h, other, helloText(h) == helloText(other))
		tags := append(impl.TagsOf(other.Exts), impl.TagsOf(h.Exts)[:pick.IntN(len(h.Exts)+1)]...)
		if checkChoice(t, "by chance", other.Versions, tags, h) {
			answered++
		}
		exts := extsByChance(pick)
		a := answer(pick.IntN(11), exts[:min(pick.IntN(3), len(exts))]...)
		checkAnswerTo(t, "by chance", h, a)
		// What one hello offers is seldom what another one does.
		if chosen, ok := impl.ChooseAnswer(other.Versions, tags, h); ok {
			checkAnswerTo(t, "another hello", other, chosen)
		}
		if fitsOf(h, a) {
			fit++
		}
	}
	if answered < 1000 || fit < 100 {
		t.Errorf("%d hellos are answered, and %d answers fit", answered, fit)
	}
}

// Any int may stand in every place.
func TestHellosWithAnyIntEverywhere(t *testing.T) {
	for _, n := range slices.Concat(byteLimits(), versionLimits()) {
		for size := range 13 {
			versions := slices.Repeat(bytesOf(n), size)
			for count := range 8 {
				exts := slices.Repeat(extsOf(ext(n, slices.Repeat(bytesOf(n), size%6)...)), count)
				for _, h := range []impl.Hello{hello(versions, exts...), hello(bytesOf(1, 9), exts...), hello(versions, ext(2, 9))} {
					checkHello(t, "one number", h)
					checkChoice(t, "one number", versions, versions, h)
					checkChoice(t, "one number", bytesOf(1, 9), bytesOf(n, 2), h)
					checkAnswerTo(t, "one number", h, answer(n, exts...))
					checkAnswerTo(t, "one number", h, answer(9, exts...))
				}
			}
			checkHelloReadings(t, "one number", versions)
		}
	}
}

func TestLongHellos(t *testing.T) {
	const many = 100000
	var numbers []int
	for i := range many {
		numbers = append(numbers, i)
	}
	h := hello(bytesOf(1, 9), ext(2, 9), ext(10), ext(99, 1))
	checkHello(t, "many versions", hello(numbers))
	checkHello(t, "many versions from 1", hello(numbers[1:], ext(2, 9)))
	checkHello(t, "many extensions", hello(bytesOf(1), make([]impl.Ext, 3000)...))
	checkHello(t, "a long Body", hello(bytesOf(1), ext(2, make([]int, many)...)))
	checkChoice(t, "many tags", bytesOf(1, 2), numbers, h)
	checkChoice(t, "many versions", numbers[1:], numbers, h)
	checkChoice(t, "many versions on both sides", numbers[1:], numbers, hello(numbers[1:]))
	checkAnswerTo(t, "many extensions", h, answer(9, make([]impl.Ext, 3000)...))
	checkAnswerTo(t, "a long Body", h, answer(9, ext(2, make([]int, many)...)))
	for _, count := range bytesOf(1, 9, 10, many-1, many) {
		checkHelloReadings(t, "many bytes", append(bytesOf(count), numbers...))
		checkHelloReadings(t, "many bytes from 1", append(bytesOf(count), numbers[1:]...))
		checkHelloReadings(t, "many zeros", append(bytesOf(count, 1), make([]int, many)...))
	}
}

// markedHello returns a copy of a hello with marks in the spare capacity of all lists.
func markedHello(h impl.Hello) impl.Hello {
	return impl.Hello{Versions: markedBytes(h.Versions), Exts: markedExts(h.Exts)}
}

func memoryOfHello(h impl.Hello) string {
	return fmt.Sprint(len(h.Versions), whole(h.Versions), memoryOfExts(h.Exts))
}

// askHellos asks everything of the chapter and returns the answers as a text.
func askHellos(h impl.Hello, other impl.Hello, versions []int, tags []int) string {
	text := fmt.Sprint(impl.IsHello(h), impl.HelloBytes(h), impl.EqualHellos(h, other), impl.EqualHellos(other, h), impl.EqualHellos(h, h))
	for _, a := range []impl.Answer{{Version: 3, Exts: h.Exts}, {Version: 9, Exts: other.Exts}} {
		text += fmt.Sprint(impl.IsAnswer(a), impl.AnswerBytes(a), impl.FitsHello(h, a), impl.FitsHello(other, a))
	}
	chosen, ok := impl.ChooseAnswer(versions, tags, h)
	again, same := impl.ChooseAnswer(h.Versions, impl.TagsOf(h.Exts), h)
	return fmt.Sprint(text, chosen, ok, again, same, impl.FitsHello(h, chosen), impl.FitsHello(other, again))
}

// mixedHellos returns hellos that are valid and such that are not.
func mixedHellos() []impl.Hello {
	var hellos []impl.Hello
	for i, h := range noHellos() {
		if i%11 == 0 {
			hellos = append(hellos, h)
		}
	}
	return slices.Concat(aboutFifty(), hellos)
}

func TestHellosKeepArguments(t *testing.T) {
	hellos := mixedHellos()
	for i := range hellos {
		h, other := markedHello(hellos[i]), markedHello(hellos[len(hellos)-1-i])
		versions, tags, b := markedBytes(bytesOf(1, 5, 9)), markedBytes(impl.TagsOf(h.Exts)), markedBytes(helloBytesOf(h))
		memory := func() string {
			return fmt.Sprint(memoryOfHello(h), memoryOfHello(other), whole(versions), whole(tags), whole(b))
		}
		before := memory()
		askHellos(h, other, versions, tags)
		askHellos(other, h, tags, versions)
		for size := range min(len(b)+2, 40) {
			impl.ReadHello(b[:size])
		}
		if memory() != before {
			t.Errorf("the arguments are changed from %s to %s", before, memory())
		}
	}
}

func TestHellosShareNoMemory(t *testing.T) {
	for _, h := range aboutFifty() {
		h, b := markedHello(h), markedBytes(helloBytesOf(h))
		versions, tags := markedBytes(allVersions()), markedBytes(impl.TagsOf(h.Exts))
		a := impl.Answer{Version: 9, Exts: h.Exts}
		exts := [][]impl.Ext{whole(h.Exts)}
		numbers := append(bodiesOf(slices.Clone(h.Exts)), h.Versions, b, versions, tags)
		for range 2 {
			read, ok := impl.ReadHello(b)
			chosen, done := impl.ChooseAnswer(versions, tags, h)
			if !ok || !done {
				t.Fatalf("%v is not read or not answered", h)
			}
			exts = append(exts, whole(read.Exts), whole(chosen.Exts))
			numbers = slices.Concat(numbers, bodiesOf(read.Exts), bodiesOf(chosen.Exts),
				[][]int{read.Versions, impl.HelloBytes(h), impl.AnswerBytes(a)})
		}
		for i, list := range numbers {
			numbers[i] = whole(list)
		}
		checkApart(t, helloText(h), numbers)
		checkAllApart(t, helloText(h), exts, func(x *impl.Ext) { x.Tag += 1000 })
	}
}

// A Body that stands in a hello twice stands in the answer as two.
func TestAnswersWithTheSameBody(t *testing.T) {
	body := markedBytes(bytesOf(1, 2, 3))
	h := hello(body[:1], ext(1, body...), ext(2, body...), ext(3, body[:0]...), ext(4, body[1:]...))
	a, ok := impl.ChooseAnswer(body[:2], body, h)
	if !ok || a.Version != 1 || !sameExts(a.Exts, h.Exts[:3]) {
		t.Fatalf("ChooseAnswer gives %v, %v", a, ok)
	}
	checkApart(t, "the same Body", append(bodiesOf(a.Exts), whole(body), whole(impl.HelloBytes(h)), whole(impl.AnswerBytes(a))))
}

// Also the empty results are the caller's own.
func TestEmptyHellosShareNoMemory(t *testing.T) {
	wrong, plain := markedHello(hello(bytesOf(3, 1), ext(-1))), markedHello(hello(bytesOf(1, 3)))
	none, versions := markedBytes(nil), markedBytes(bytesOf(3))
	b := markedBytes(bytesOf(1, 3, 0))
	memory := func() string {
		return fmt.Sprint(memoryOfHello(wrong), memoryOfHello(plain), whole(none), whole(versions), whole(b))
	}
	before := memory()
	for range 2 {
		failed, _ := impl.ReadHello(none)
		read, _ := impl.ReadHello(b)
		lost, _ := impl.ChooseAnswer(versions, none, wrong)
		chosen, ok := impl.ChooseAnswer(versions, none, plain)
		if !ok || len(failed.Versions) != 0 {
			t.Errorf("%v, %v", chosen, failed)
		}
		for _, l := range [][]impl.Ext{failed.Exts, read.Exts, lost.Exts, chosen.Exts} {
			if len(l) != 0 {
				t.Error(l)
			}
			for i := range whole(l) {
				whole(l)[i] = ext(7)
			}
		}
		for _, l := range [][]int{impl.HelloBytes(wrong), impl.AnswerBytes(impl.Answer{Exts: wrong.Exts}), failed.Versions} {
			if len(l) != 0 {
				t.Error(l)
			}
			for i := range whole(l) {
				whole(l)[i] = 7
			}
		}
	}
	if memory() != before {
		t.Errorf("the arguments are changed from %s to %s", before, memory())
	}
}

// What one call has met is not known to another.
func TestHellosKeepNoState(t *testing.T) {
	hellos := mixedHellos()
	ask := func(i int) string {
		h, other := hellos[i], hellos[len(hellos)-1-i]
		read, ok := impl.ReadHello(helloBytesOf(h))
		return fmt.Sprint(askHellos(h, other, allVersions(), openTags), read, ok)
	}
	var first []string
	for i := range hellos {
		first = append(first, ask(i))
	}
	for i := range slices.Backward(hellos) {
		if got := ask(i); got != first[i] {
			t.Errorf("of %.200s the answers are %s, not %s, after other calls", helloText(hellos[i]), got, first[i])
		}
	}
}

// A hello that is changed later changes the next answer and none that was given.
func TestHellosAreReadWhenAsked(t *testing.T) {
	h := hello(bytesOf(1, 3), ext(2, 9), ext(40, 1))
	b := helloBytesOf(h)
	chosen, _ := impl.ChooseAnswer(bytesOf(1, 3), bytesOf(2, 40), h)
	read, _ := impl.ReadHello(b)
	wanted, before := fmt.Sprint(chosen), helloText(h)
	for _, n := range bytesOf(5, 10, 40, 256, -1, 2) {
		h.Exts[0].Tag, h.Exts[0].Body[0], h.Versions[1] = n, n+1, max(2, n%10)
		b[2], b[4], b[6] = max(2, n%10), n, n+1
		checkHello(t, "changed later", h)
		checkChoice(t, "changed later", allVersions(), bytesOf(2, 5, 10, 40), h)
		checkHelloReadings(t, "changed later", b)
		if fmt.Sprint(chosen) != wanted || helloText(read) != before {
			t.Errorf("what was given is changed to %v, %v", chosen, read)
		}
	}
}
