package tests

import (
	"fmt"
	"math"
	"slices"
	"testing"

	"loop.example/g03000/impl"
)

// Promise 9: extensions are read as they were written (chapter 9).

func ext(tag int, body ...int) impl.Ext {
	return impl.Ext{Tag: tag, Body: body}
}

// extsOf returns a list that is not nil, also if it is empty.
func extsOf(exts ...impl.Ext) []impl.Ext {
	return append([]impl.Ext{}, exts...)
}

// isExtList says by another way than the program's whether a list may be written: all
// its numbers are bytes, and its tags are still as many when each is left once.
func isExtList(l []impl.Ext) bool {
	var tags, numbers []int
	longest := 0
	for _, x := range l {
		tags = append(tags, x.Tag)
		numbers = slices.Concat(numbers, bytesOf(x.Tag), x.Body)
		longest = max(longest, len(x.Body))
	}
	slices.Sort(tags)
	isNoByte := func(n int) bool { return int(byte(n)) != n }
	return len(l) < 7 && longest < 5 && !slices.ContainsFunc(numbers, isNoByte) &&
		len(slices.Compact(tags)) == len(l)
}

// writtenExts writes a list from its end.
func writtenExts(l []impl.Ext) []int {
	b := []int{}
	for _, x := range slices.Backward(l) {
		b = slices.Concat(bytesOf(x.Tag, len(x.Body)), x.Body, b)
	}
	return slices.Concat(bytesOf(len(l)), b)
}

// splitExts returns the lists of so many extensions that are written as b. It tries
// every length that a Body may have, where the program goes by what the bytes say.
func splitExts(b []int, count int) [][]impl.Ext {
	if count == 0 && len(b) == 0 {
		return [][]impl.Ext{{}}
	}
	var all [][]impl.Ext
	for size := 0; count > 0 && size <= 4 && len(b) >= 2+size; size++ {
		if b[1] != size {
			continue
		}
		for _, rest := range splitExts(b[2+size:], count-1) {
			all = append(all, slices.Concat(extsOf(ext(b[0], b[2:2+size]...)), rest))
		}
	}
	return all
}

// extReadings returns the lists that may be written and are written as b.
func extReadings(b []int) [][]impl.Ext {
	var all [][]impl.Ext
	for count := 0; count <= 6 && len(b) > 0; count++ {
		if b[0] == count {
			all = append(all, splitExts(b[1:], count)...)
		}
	}
	return slices.DeleteFunc(all, func(l []impl.Ext) bool { return !isExtList(l) })
}

// checkExts holds what the program says of a list, and what it writes, against whether
// the list may be written.
func checkExts(t *testing.T, name string, l []impl.Ext, want bool) {
	t.Helper()
	if got := impl.AreExts(l); got != want {
		t.Errorf("%s: AreExts(%.200v) is %v", name, fmt.Sprint(l), got)
	}
	var b []int
	if want {
		b = writtenExts(l)
	}
	if got, ok := impl.EncodeExts(l); ok != want || !slices.Equal(got, b) {
		t.Errorf("%s: EncodeExts(%.200v) is %v, %v, not %v", name, fmt.Sprint(l), got, ok, b)
	}
}

// checkExtBytes holds what the program reads from b against a list, or against a
// failure if the list is nil.
func checkExtBytes(t *testing.T, name string, b []int, want []impl.Ext) {
	t.Helper()
	got, ok := impl.DecodeExts(b)
	if ok != (want != nil) || fmt.Sprint(got) != fmt.Sprint(want) {
		t.Errorf("%s: DecodeExts(%.80v) is %v, %v, not %v", name, fmt.Sprint(b), got, ok, want)
	}
	if !ok {
		return
	}
	// What is accepted is written as the same integers.
	if again, ok := impl.EncodeExts(got); !ok || !slices.Equal(again, b) {
		t.Errorf("%s: %v is written as %v, %v, not %v", name, got, again, ok, b)
	}
}

// checkExtReadings holds the program against extReadings.
func checkExtReadings(t *testing.T, name string, b []int) {
	t.Helper()
	switch all := extReadings(b); len(all) {
	case 0:
		checkExtBytes(t, name, b, nil)
	case 1:
		checkExtBytes(t, name, b, all[0])
	default:
		t.Fatalf("%s: %v are written as %v", name, all, b)
	}
}

// longBody returns a Body of so many bytes, from the greatest one down.
func longBody(size int) []int {
	body := []int{}
	for i := range size {
		body = append(body, 255-i)
	}
	return body
}

// someExts returns lists of each length that may be written.
func someExts() [][]impl.Ext {
	lists := [][]impl.Ext{
		{}, {ext(0)}, {ext(255)}, {ext(1, 7)}, {ext(0, 0)}, {ext(4, 255)}, {ext(10, 0, 0, 0, 0)}, {ext(5, 1, 2, 3, 4)},
		{ext(1, 7), ext(40)}, {ext(40), ext(1, 7)}, {ext(0), ext(1)}, {ext(3, 3, 3, 3), ext(2, 2, 2)}, {ext(1, 4), ext(4, 1)},
		{ext(26, 1), ext(7, 1), ext(255, 0, 255)}, {ext(9, 8, 7, 6, 5), ext(0), ext(8, 7, 6, 5, 4)},
		{ext(1), ext(2, 1), ext(3, 1, 2), ext(4, 1, 2, 3)},
		{ext(200, 1, 2, 3, 4), ext(201, 1, 2, 3), ext(202, 1, 2), ext(203, 1), ext(204)},
		{ext(5), ext(4), ext(3), ext(2), ext(1), ext(0)}, {ext(10), ext(26), ext(42), ext(58), ext(74), ext(90)},
	}
	for count := range 7 {
		for size := range 5 {
			l := extsOf()
			for i := range count {
				l = append(l, ext(51*i, longBody(size)...))
			}
			lists = append(lists, l)
		}
	}
	return lists
}

// byteLimits returns numbers about the limits of a byte, and ints beyond all limits.
func byteLimits() []int {
	return append(someNumbers(), -256, -255, 10, 127, 128, 254, 255, 256, 257, 1<<32+255, math.MaxInt-255)
}

func TestExtensionLimits(t *testing.T) {
	if got, want := bytesOf(impl.MaxExts, impl.MaxBody), bytesOf(6, 4); !slices.Equal(got, want) {
		t.Errorf("the constants are %v, not %v", got, want)
	}
}

func TestAreExts(t *testing.T) {
	six := extsOf(ext(1), ext(2), ext(3), ext(4), ext(5), ext(6))
	cases := []struct {
		name string
		l    []impl.Ext
		want bool
	}{
		{"nil", nil, true},
		{"empty", extsOf(), true},
		{"empty before spare capacity", extsOf(ext(-1), ext(256))[:0], true},
		{"the zero Ext", make([]impl.Ext, 1), true},
		{"two zero Exts", make([]impl.Ext, 2), false},
		{"one", extsOf(ext(1, 7)), true},
		{"several", extsOf(ext(1, 7), ext(40), ext(3, 1, 2)), true},
		{"MaxExts", six, true},
		{"one more than MaxExts", append(slices.Clone(six), ext(7)), false},
		{"one more than MaxExts in the spare capacity", append(slices.Clone(six), ext(7))[:6], true},
		{"MaxExts with the longest bodies", slices.Clone(someExts()[len(someExts())-1]), true},
		{"twice as many as MaxExts", append(slices.Clone(six), ext(11), ext(12), ext(13), ext(14), ext(15), ext(16)), false},

		{"a Tag of -1", extsOf(ext(-1)), false},
		{"a Tag of 0", extsOf(ext(0)), true},
		{"a Tag of 99", extsOf(ext(99)), true},
		{"a Tag of 100", extsOf(ext(100)), true},
		{"a Tag of 255", extsOf(ext(255)), true},
		{"a Tag of 256", extsOf(ext(256)), false},
		{"the least Tag", extsOf(ext(math.MinInt)), false},
		{"the greatest Tag", extsOf(ext(math.MaxInt)), false},
		{"a Tag that is 5 modulo 256", extsOf(ext(1<<32 + 5)), false},
		{"a Tag of -1 at the end", extsOf(ext(1), ext(2), ext(-1)), false},
		{"a Tag of 256 between", extsOf(ext(1), ext(256), ext(2)), false},
		{"a Tag of 256 at the front", extsOf(ext(256), ext(1), ext(2)), false},
		{"a Tag of 0 and one of 255", extsOf(ext(255), ext(0)), true},

		{"a nil Body", extsOf(impl.Ext{Tag: 1}), true},
		{"an empty Body", extsOf(impl.Ext{Tag: 1, Body: []int{}}), true},
		{"an empty Body before spare capacity", extsOf(impl.Ext{Tag: 1, Body: bytesOf(-1, 256)[:0]}), true},
		{"a Body of MaxBody bytes", extsOf(ext(1, 1, 2, 3, 4)), true},
		{"a Body of one more byte", extsOf(ext(1, 1, 2, 3, 4, 5)), false},
		{"a Body of one more byte in its spare capacity", extsOf(ext(1, bytesOf(1, 2, 3, 4, 5)[:4]...)), true},
		{"a Body of one more byte at the end", extsOf(ext(1, 1, 2, 3, 4), ext(2, 1, 2, 3, 4, 5)), false},
		{"a Body of one more byte at the front", extsOf(ext(2, 0, 0, 0, 0, 0), ext(1)), false},
		{"a Body of many bytes", extsOf(ext(1, make([]int, 100000)...)), false},
		{"a byte of -1", extsOf(ext(1, -1)), false},
		{"a byte of 0", extsOf(ext(1, 0)), true},
		{"a byte of 255", extsOf(ext(1, 255)), true},
		{"a byte of 256", extsOf(ext(1, 256)), false},
		{"the least byte", extsOf(ext(1, math.MinInt)), false},
		{"the greatest byte", extsOf(ext(1, math.MaxInt)), false},
		{"a byte of -1 as the last of MaxBody", extsOf(ext(1, 1, 2, 3, -1)), false},
		{"a byte of 256 as the first of MaxBody", extsOf(ext(1, 256, 2, 3, 4)), false},
		{"bytes of 255 alone", extsOf(ext(255, 255, 255, 255, 255)), true},
		{"a byte of 256 at the end", extsOf(ext(1, 1), ext(2, 1, 256)), false},

		{"the same Tag next to each other", extsOf(ext(1), ext(1)), false},
		{"the same Tag with other bodies", extsOf(ext(1, 2), ext(1, 3)), false},
		{"the same Tag apart", extsOf(ext(1), ext(2), ext(1)), false},
		{"the same Tag at both ends", extsOf(ext(6), ext(2), ext(3), ext(4), ext(5), ext(6)), false},
		{"the same Tag at the end", extsOf(ext(1), ext(2), ext(3), ext(4), ext(5), ext(5)), false},
		{"the same Tag three times", extsOf(ext(7), ext(7), ext(7)), false},
		{"two Tags, both twice", extsOf(ext(1), ext(2), ext(1), ext(2)), false},
		{"the same Body", extsOf(ext(1, 5), ext(2, 5)), true},
		{"a Tag that is a byte of another one", extsOf(ext(1, 2), ext(2, 1)), true},
		{"the same Tag in the spare capacity", extsOf(ext(1), ext(1))[:1], true},
		{"Tags that are the same modulo 256", extsOf(ext(1), ext(257)), false},
	}
	for _, c := range cases {
		checkExts(t, c.name, c.l, c.want)
		if isExtList(c.l) != c.want {
			t.Errorf("%s: the test's own answer is %v", c.name, !c.want)
		}
	}
}

func TestEncodeExts(t *testing.T) {
	cases := []struct {
		name string
		l    []impl.Ext
		want []int
	}{
		{"nil", nil, bytesOf(0)},
		{"empty", extsOf(), bytesOf(0)},
		{"one without a Body", extsOf(ext(40)), bytesOf(1, 40, 0)},
		{"one with an empty Body", extsOf(impl.Ext{Tag: 40, Body: []int{}}), bytesOf(1, 40, 0)},
		{"one", extsOf(ext(1, 7)), bytesOf(1, 1, 1, 7)},
		{"two", extsOf(ext(1, 7), ext(40)), bytesOf(2, 1, 1, 7, 40, 0)},
		{"two, the other way round", extsOf(ext(40), ext(1, 7)), bytesOf(2, 40, 0, 1, 1, 7)},
		{"the greatest body", extsOf(ext(255, 0, 255, 1, 254)), bytesOf(1, 255, 4, 0, 255, 1, 254)},
		{"three", extsOf(ext(0, 9, 8), ext(200), ext(3, 1, 2, 3)), bytesOf(3, 0, 2, 9, 8, 200, 0, 3, 3, 1, 2, 3)},
		{"six", extsOf(ext(6), ext(5), ext(4, 4), ext(3), ext(2), ext(1, 1, 1, 1, 1)),
			bytesOf(6, 6, 0, 5, 0, 4, 1, 4, 3, 0, 2, 0, 1, 4, 1, 1, 1, 1)},
	}
	for _, c := range cases {
		if got, ok := impl.EncodeExts(c.l); !ok || !slices.Equal(got, c.want) {
			t.Errorf("%s: EncodeExts(%v) is %v, %v, not %v", c.name, c.l, got, ok, c.want)
		}
		checkExts(t, c.name, c.l, true)
		checkExtBytes(t, c.name, c.want, append(extsOf(), c.l...))
	}
}

func TestDecodeExts(t *testing.T) {
	cases := []struct {
		name string
		b    []int
		want []impl.Ext
	}{
		{"no extensions", bytesOf(0), extsOf()},
		{"one without a Body", bytesOf(1, 40, 0), extsOf(ext(40))},
		{"one with the longest Body", bytesOf(1, 5, 4, 1, 2, 3, 4), extsOf(ext(5, 1, 2, 3, 4))},
		{"two", bytesOf(2, 1, 1, 7, 40, 0), extsOf(ext(1, 7), ext(40))},
		{"two with the longest Body", bytesOf(2, 9, 4, 0, 0, 0, 0, 8, 4, 255, 255, 255, 255), extsOf(ext(9, 0, 0, 0, 0), ext(8, 255, 255, 255, 255))},
		{"six", bytesOf(6, 1, 0, 2, 0, 3, 0, 4, 0, 5, 0, 6, 0), extsOf(ext(1), ext(2), ext(3), ext(4), ext(5), ext(6))},
		{"a Tag of 0", bytesOf(1, 0, 0), extsOf(ext(0))},
		{"a Tag of 255", bytesOf(1, 255, 0), extsOf(ext(255))},
		{"a byte of 0", bytesOf(1, 5, 1, 0), extsOf(ext(5, 0))},
		{"a byte of 255", bytesOf(1, 5, 1, 255), extsOf(ext(5, 255))},

		{"nil", nil, nil},
		{"no integers", []int{}, nil},
		{"a number in the spare capacity", bytesOf(0)[:0], nil},
		{"a number alone", bytesOf(1), nil},
		{"a number and a Tag", bytesOf(1, 5), nil},
		{"a number and a Tag, and a length in the spare capacity", bytesOf(1, 5, 0)[:2], nil},
		{"a Body that ends too early", bytesOf(1, 5, 1), nil},
		{"a Body that ends too early, before spare capacity", bytesOf(1, 5, 1, 9)[:3], nil},
		{"a longest Body that ends too early", bytesOf(1, 5, 4, 1, 2, 3), nil},
		{"a second one that is missing", bytesOf(2, 5, 0), nil},
		{"a second one with a Tag alone", bytesOf(2, 5, 0, 6), nil},
		{"a second one whose Body ends too early", bytesOf(2, 5, 0, 6, 2, 1), nil},
		{"more behind none", bytesOf(0, 1), nil},
		{"a 0 behind none", bytesOf(0, 0), nil},
		{"a 0 behind the last one", bytesOf(1, 5, 0, 0), nil},
		{"an extension behind the last one", bytesOf(1, 5, 0, 6, 0), nil},
		{"a byte behind the longest Body", bytesOf(1, 5, 4, 1, 2, 3, 4, 5), nil},
		{"a negative number", bytesOf(-1), nil},
		{"a negative number and an extension", bytesOf(-1, 5, 0), nil},
		{"one more than MaxExts", bytesOf(7, 1, 0, 2, 0, 3, 0, 4, 0, 5, 0, 6, 0, 7, 0), nil},
		{"the least number", bytesOf(math.MinInt, 1, 0), nil},
		{"the greatest number", bytesOf(math.MaxInt, 1, 0), nil},
		{"a number that is 1 modulo 256", bytesOf(257, 1, 0), nil},
		{"a number that is 1 modulo 2^32", bytesOf(1<<32+1, 1, 0), nil},
		{"a negative length", bytesOf(1, 5, -1), nil},
		{"a negative length and a byte", bytesOf(1, 5, -1, 7), nil},
		{"one more byte than MaxBody", bytesOf(1, 5, 5, 1, 2, 3, 4, 5), nil},
		{"one more byte than MaxBody, at the end", bytesOf(2, 6, 0, 5, 5, 1, 2, 3, 4, 5), nil},
		{"a length that reaches back", bytesOf(2, 5, 0, 6, -2), nil},
		{"the least length", bytesOf(1, 5, math.MinInt), nil},
		{"the greatest length", bytesOf(1, 5, math.MaxInt), nil},
		{"the greatest length and bytes", bytesOf(1, 5, math.MaxInt, 1, 2), nil},
		{"a length that is 1 modulo 2^32", bytesOf(1, 5, 1<<32+1, 1), nil},
		{"a Tag of -1", bytesOf(1, -1, 0), nil},
		{"a Tag of 256", bytesOf(1, 256, 0), nil},
		{"the least Tag", bytesOf(1, math.MinInt, 0), nil},
		{"the greatest Tag", bytesOf(1, math.MaxInt, 0), nil},
		{"a Tag of 256 at the end", bytesOf(2, 255, 0, 256, 0), nil},
		{"a byte of -1", bytesOf(1, 5, 1, -1), nil},
		{"a byte of 256", bytesOf(1, 5, 1, 256), nil},
		{"a byte of 256 as the last of MaxBody", bytesOf(1, 5, 4, 1, 2, 3, 256), nil},
		{"the least byte", bytesOf(1, 5, 1, math.MinInt), nil},
		{"the greatest byte", bytesOf(1, 5, 1, math.MaxInt), nil},
		{"the same Tag next to each other", bytesOf(2, 5, 0, 5, 0), nil},
		{"the same Tag with other bodies", bytesOf(2, 5, 1, 1, 5, 1, 2), nil},
		{"the same Tag apart", bytesOf(3, 5, 0, 6, 0, 5, 0), nil},
		{"the same Tag at both ends of six", bytesOf(6, 1, 0, 2, 0, 3, 0, 4, 0, 5, 0, 1, 0), nil},
	}
	for _, c := range cases {
		checkExtBytes(t, c.name, c.b, c.want)
		checkExtReadings(t, c.name, c.b)
	}
}

// shortExts returns every list with tags and bytes of an alphabet that may be written in
// so many integers.
func shortExts(alphabet []int, most int) [][]impl.Ext {
	var single []impl.Ext
	eachList(alphabet, most-2, func(b []int) {
		if len(b) > 0 && isExtList(extsOf(ext(b[0], b[1:]...))) {
			single = append(single, ext(b[0], b[1:]...))
		}
	})
	all := [][]impl.Ext{{}}
	for i := 0; i < len(all); i++ {
		for _, x := range single {
			longer := append(slices.Clone(all[i]), x)
			if isExtList(longer) && len(writtenExts(longer)) <= most {
				all = append(all, longer)
			}
		}
	}
	return all
}

// Every short list of integers is either how the test writes a list that it builds
// itself or it is not accepted.
func TestDecodeEveryShortListOfExts(t *testing.T) {
	cases := []struct {
		alphabet []int
		most     int
	}{{bytesOf(0, 1, 2), 8}, {bytesOf(0, 1, 2, 3), 7}, {bytesOf(-1, 0, 1, 2, 4, 5, 255, 256), 5}}
	for _, c := range cases {
		written := map[string][]impl.Ext{}
		for _, l := range shortExts(c.alphabet, c.most) {
			b := writtenExts(l)
			// A length may be no integer of the alphabet.
			if !slices.ContainsFunc(b, func(n int) bool { return !slices.Contains(c.alphabet, n) }) {
				written[fmt.Sprint(b)] = l
			}
		}
		accepted := 0
		eachList(c.alphabet, c.most, func(b []int) {
			want := written[fmt.Sprint(b)]
			checkExtBytes(t, "a short list", b, want)
			if want != nil {
				accepted++
			}
		})
		if accepted == 0 || accepted != len(written) {
			t.Errorf("%d lists of %v are accepted, not %d", accepted, c.alphabet, len(written))
		}
	}
}

func TestExtsAreReadAsWritten(t *testing.T) {
	met := map[string]string{}
	for _, l := range someExts() {
		b := writtenExts(l)
		checkExts(t, "a list", l, true)
		checkExtBytes(t, "its integers", b, l)
		if got, ok := impl.DecodeExts(b); !ok || !impl.EqualExts(got, l) || !impl.EqualExts(l, got) {
			t.Errorf("%v is read as %v, %v", l, got, ok)
		}
		for size := range len(b) {
			checkExtBytes(t, "a beginning", b[:size], nil)
			checkExtBytes(t, "a beginning without spare capacity", b[:size:size], nil)
		}
		for _, tail := range [][]int{{0}, {1}, {-1}, {255}, {5, 0}, {math.MinInt}, {math.MaxInt}, b, make([]int, 1000)} {
			checkExtBytes(t, "its integers and more", slices.Concat(b, tail), nil)
		}
		key, text := fmt.Sprint(b), fmt.Sprint(l)
		if other, ok := met[key]; ok && other != text {
			t.Errorf("%s and %s are both %v", other, text, b)
		}
		met[key] = text
	}
}

func TestSpoiledExts(t *testing.T) {
	for _, l := range someExts() {
		b := writtenExts(l)
		for i := range b {
			checkExtReadings(t, "an integer left out", slices.Delete(slices.Clone(b), i, i+1))
			for _, n := range append(byteLimits(), b[i]-1, b[i]+1, b[i]+256, b[i]-256, b[i]+1<<32) {
				changed := slices.Clone(b)
				changed[i] = n
				checkExtReadings(t, "an integer changed", changed)
			}
			for k := range i {
				changed := slices.Clone(b)
				changed[i], changed[k] = changed[k], changed[i]
				checkExtReadings(t, "two integers exchanged", changed)
			}
		}
		for i := range len(b) + 1 {
			for _, n := range bytesOf(math.MinInt, -1, 0, 1, 2, 4, 5, 6, 7, 255, 256, math.MaxInt) {
				checkExtReadings(t, "an integer added", slices.Insert(slices.Clone(b), i, n))
			}
		}
	}
}

// eachExtChange calls use with a list that has another Tag, another byte, or a byte or
// an extension more or less.
func eachExtChange(l []impl.Ext, use func(changed []impl.Ext)) {
	with := func(i int, x impl.Ext) {
		changed := slices.Clone(l)
		changed[i] = x
		use(changed)
	}
	for i, x := range l {
		use(slices.Delete(slices.Clone(l), i, i+1))
		for _, n := range append(byteLimits(), x.Tag-1, x.Tag+1, x.Tag+51, x.Tag+256) {
			with(i, ext(n, x.Body...))
			with(i, ext(x.Tag, append(slices.Clone(x.Body), n)...))
			for k := range x.Body {
				body := slices.Clone(x.Body)
				body[k] = n
				with(i, ext(x.Tag, body...))
			}
		}
		for k := range x.Body {
			with(i, ext(x.Tag, x.Body[:k]...))
		}
	}
	for i := range len(l) + 1 {
		for _, n := range append(byteLimits(), impl.TagsOf(l)...) {
			use(slices.Insert(slices.Clone(l), i, ext(n)))
		}
	}
}

func TestExtsWithOneChange(t *testing.T) {
	for _, l := range someExts() {
		right, wrong := 0, 0
		eachExtChange(l, func(changed []impl.Ext) {
			want := isExtList(changed)
			checkExts(t, "a change", changed, want)
			if !want {
				wrong++
				// Nobody reads what may not be written.
				checkExtReadings(t, "written all the same", writtenExts(changed))
				return
			}
			right++
			checkExtBytes(t, "a change", writtenExts(changed), changed)
		})
		if right == 0 || wrong == 0 {
			t.Errorf("of the changes of %v, %d are right and %d are not", l, right, wrong)
		}
	}
}

// checkExtOf holds ExtOf against the place that the test finds from the end.
func checkExtOf(t *testing.T, l []impl.Ext, tag int) {
	t.Helper()
	want := -1
	for i, x := range slices.Backward(l) {
		if x.Tag == tag {
			want = i
		}
	}
	if got := impl.ExtOf(l, tag); got != want {
		t.Errorf("ExtOf(%.200v, %d) is %d, not %d", fmt.Sprint(l), tag, got, want)
	}
}

func TestExtOf(t *testing.T) {
	l := extsOf(ext(1, 7), ext(40), ext(2), ext(40, 3), ext(-1), ext(256), ext(2), ext(40), ext(0))
	cases := []struct {
		name      string
		l         []impl.Ext
		tag, want int
	}{
		{"the first one", l, 1, 0},
		{"the last one", l, 0, 8},
		{"one that is there three times", l, 40, 1},
		{"one that is there twice", l, 2, 2},
		{"a Tag of -1", l, -1, 4},
		{"a Tag of 256", l, 256, 5},
		{"one that is not there", l, 3, -1},
		{"one that is a byte of a Body", l, 7, -1},
		{"one that is there modulo 256", l, 296, -1},
		{"one that is there modulo 2^32", l, 1<<32 + 1, -1},
		{"one in the spare capacity", l[:8], 0, -1},
		{"the least int, not there", l, math.MinInt, -1},
		{"the greatest int, not there", l, math.MaxInt, -1},
		{"the least int", extsOf(ext(0), ext(math.MinInt), ext(math.MinInt)), math.MinInt, 1},
		{"the greatest int", extsOf(ext(-1), ext(math.MaxInt)), math.MaxInt, 1},
		{"nil", nil, 0, -1},
		{"empty", extsOf(), 0, -1},
		{"the zero Ext", make([]impl.Ext, 3), 0, 0},
		{"the same Tag with other bodies", extsOf(ext(5, 1), ext(5)), 5, 0},
	}
	for _, c := range cases {
		if got := impl.ExtOf(c.l, c.tag); got != c.want {
			t.Errorf("%s: ExtOf(%v, %d) is %d, not %d", c.name, c.l, c.tag, got, c.want)
		}
		checkExtOf(t, c.l, c.tag)
	}
	for _, l := range someExts() {
		for tag := -2; tag <= 258; tag++ {
			checkExtOf(t, l, tag)
			checkExtOf(t, slices.Concat(l, l), tag)
		}
		for _, tag := range byteLimits() {
			checkExtOf(t, slices.Concat(extsOf(ext(1)), l, extsOf(ext(tag))), tag)
		}
	}
}

func TestKnownOf(t *testing.T) {
	l := extsOf(ext(1, 7), ext(40), ext(3, 1, 2, 3, 4), ext(255, 0))
	wrong := extsOf(ext(5, 1), ext(-1, -2), ext(5, 2), ext(256), ext(5, 1), ext(8, 1, 2, 3, 4, 5, 6))
	cases := []struct {
		name string
		l    []impl.Ext
		tags []int
		want []impl.Ext
	}{
		{"nil tags", l, nil, nil},
		{"no tags", l, []int{}, nil},
		{"tags in the spare capacity", l, bytesOf(1, 40)[:0], nil},
		{"one tag", l, bytesOf(40), extsOf(ext(40))},
		{"the first one and the last one", l, bytesOf(1, 255), extsOf(ext(1, 7), ext(255, 0))},
		{"tags in another order", l, bytesOf(255, 3, 1), extsOf(ext(1, 7), ext(3, 1, 2, 3, 4), ext(255, 0))},
		{"all tags", l, bytesOf(1, 40, 3, 255), l},
		{"all tags from the end", l, bytesOf(255, 3, 40, 1), l},
		{"repeated tags", l, bytesOf(40, 3, 40, 40, 3), extsOf(ext(40), ext(3, 1, 2, 3, 4))},
		{"tags that are not there", l, bytesOf(2, 4, 7, 0, -1, 256, 41), nil},
		{"tags that are there and not", l, bytesOf(7, 40, 8), extsOf(ext(40))},
		{"tags that are there modulo 256", l, bytesOf(257, 296, -1, -253), nil},
		{"the least and the greatest tag", l, bytesOf(math.MinInt, math.MaxInt), nil},
		{"nil", nil, bytesOf(1, 40), nil},
		{"empty", extsOf(), bytesOf(0), nil},
		{"extensions in the spare capacity", l[:1], bytesOf(1, 40, 3), l[:1]},
		{"nil and nil", nil, nil, nil},
		{"the same Tag three times", wrong, bytesOf(5), extsOf(ext(5, 1), ext(5, 2), ext(5, 1))},
		{"a Tag and a byte that are none", wrong, bytesOf(-1), extsOf(ext(-1, -2))},
		{"a Body of too many bytes", wrong, bytesOf(8, 256), extsOf(ext(256), ext(8, 1, 2, 3, 4, 5, 6))},
		{"the least and the greatest Tag", extsOf(ext(math.MaxInt, 1), ext(math.MinInt, 2), ext(0)), bytesOf(math.MinInt, math.MaxInt),
			extsOf(ext(math.MaxInt, 1), ext(math.MinInt, 2))},
		{"zero Exts", make([]impl.Ext, 8), bytesOf(0), make([]impl.Ext, 8)},
	}
	for _, c := range cases {
		if got := impl.KnownOf(c.l, c.tags); fmt.Sprint(got) != fmt.Sprint(c.want) {
			t.Errorf("%s: KnownOf(%v, %v) is %v, not %v", c.name, c.l, c.tags, got, c.want)
		}
	}
}

// knownOf leaves out what is in no tag, where the program gathers what is in one.
func knownOf(l []impl.Ext, tags []int) []impl.Ext {
	return slices.DeleteFunc(slices.Clone(l), func(x impl.Ext) bool { return !slices.Contains(tags, x.Tag) })
}

func TestKnownOfManyLists(t *testing.T) {
	for _, l := range someExts() {
		tags := impl.TagsOf(l)
		all := [][]int{tags, slices.Concat(tags, tags), byteLimits(), {0}, {1}, {1, 40}, {102, 51, 255}}
		for n := range tags {
			all = append(all, tags[:n], tags[n:], slices.Concat(tags[n:], tags[:n]), slices.Delete(slices.Clone(tags), n, n+1))
		}
		for _, tags := range all {
			for _, l := range [][]impl.Ext{l, slices.Concat(l, l)} {
				if got, want := impl.KnownOf(l, tags), knownOf(l, tags); fmt.Sprint(got) != fmt.Sprint(want) {
					t.Errorf("KnownOf(%v, %v) is %v, not %v", l, tags, got, want)
				}
			}
		}
	}
}

func TestTagsOf(t *testing.T) {
	cases := []struct {
		name string
		l    []impl.Ext
		want []int
	}{
		{"nil", nil, nil},
		{"empty", extsOf(), nil},
		{"extensions in the spare capacity", extsOf(ext(1), ext(2))[:0], nil},
		{"one", extsOf(ext(40, 1, 2)), bytesOf(40)},
		{"several, not in ascending order", extsOf(ext(3), ext(255, 4), ext(1, 7), ext(2)), bytesOf(3, 255, 1, 2)},
		{"the same Tag again", extsOf(ext(3), ext(1), ext(3, 3), ext(3)), bytesOf(3, 1, 3, 3)},
		{"Tags that are none", extsOf(ext(-1), ext(256), ext(math.MinInt), ext(math.MaxInt)), bytesOf(-1, 256, math.MinInt, math.MaxInt)},
		{"more than MaxExts", make([]impl.Ext, 9), make([]int, 9)},
	}
	for _, c := range cases {
		if got := impl.TagsOf(c.l); !slices.Equal(got, c.want) {
			t.Errorf("%s: TagsOf(%v) is %v, not %v", c.name, c.l, got, c.want)
		}
	}
}

func TestEqualExts(t *testing.T) {
	l := extsOf(ext(1, 7), ext(40), ext(3, 1, 2))
	cases := []struct {
		name string
		a, b []impl.Ext
		want bool
	}{
		{"the same list", l, l, true},
		{"equal lists", l, extsOf(ext(1, 7), ext(40), ext(3, 1, 2)), true},
		{"nil and nil", nil, nil, true},
		{"nil and empty", nil, extsOf(), true},
		{"no extensions before spare capacity", l[:0], nil, true},
		{"a nil Body and an empty one", extsOf(impl.Ext{Tag: 1}), extsOf(impl.Ext{Tag: 1, Body: []int{}}), true},
		{"an empty Body before spare capacity", extsOf(impl.Ext{Tag: 1}), extsOf(ext(1, bytesOf(7)[:0]...)), true},
		{"equal before the spare capacity", l[:1], extsOf(ext(1, 7), ext(5))[:1], true},
		{"equal lists that may not be written", extsOf(ext(-1, 1, 2, 3, 4, 5), ext(-1)), extsOf(ext(-1, 1, 2, 3, 4, 5), ext(-1)), true},
		{"nil and one", nil, extsOf(ext(0)), false},
		{"one less", l, l[:2], false},
		{"one less at the front", l, l[1:], false},
		{"another order", extsOf(ext(1), ext(2)), extsOf(ext(2), ext(1)), false},
		{"another Tag alone", extsOf(ext(1, 7)), extsOf(ext(2, 7)), false},
		{"another Tag at the end", l, extsOf(ext(1, 7), ext(40), ext(4, 1, 2)), false},
		{"another Tag at the front", l, extsOf(ext(2, 7), ext(40), ext(3, 1, 2)), false},
		{"a Tag that is the same modulo 256", extsOf(ext(1)), extsOf(ext(257)), false},
		{"another byte alone", extsOf(ext(1, 7)), extsOf(ext(1, 8)), false},
		{"another byte at the end", l, extsOf(ext(1, 7), ext(40), ext(3, 1, 3)), false},
		{"another byte at the front", l, extsOf(ext(1, 0), ext(40), ext(3, 1, 2)), false},
		{"a byte more", l, extsOf(ext(1, 7), ext(40), ext(3, 1, 2, 0)), false},
		{"a byte less", l, extsOf(ext(1, 7), ext(40), ext(3, 1)), false},
		{"no Body and one", extsOf(ext(1)), extsOf(ext(1, 0)), false},
		{"bytes in another order", extsOf(ext(1, 2, 3)), extsOf(ext(1, 3, 2)), false},
		{"a byte of the one before", extsOf(ext(1, 2), ext(3)), extsOf(ext(1), ext(3, 2)), false},
		{"a Tag and a byte exchanged", extsOf(ext(1, 2)), extsOf(ext(2, 1)), false},
	}
	for _, c := range cases {
		if got := impl.EqualExts(c.a, c.b); got != c.want {
			t.Errorf("%s: EqualExts(%v, %v) is %v", c.name, c.a, c.b, got)
		}
		if got := impl.EqualExts(c.b, c.a); got != c.want {
			t.Errorf("%s: EqualExts(%v, %v) is %v", c.name, c.b, c.a, got)
		}
	}
	for _, l := range someExts() {
		eachExtChange(l, func(changed []impl.Ext) {
			// The printed text has each Tag and each Body in brackets of its own.
			if got := impl.EqualExts(l, changed); got != (fmt.Sprint(l) == fmt.Sprint(changed)) {
				t.Errorf("EqualExts(%v, %v) is %v", l, changed, got)
			}
		})
	}
}

func TestExtensionsWithAnyIntEverywhere(t *testing.T) {
	for _, n := range byteLimits() {
		for count := range 9 {
			for size := range 7 {
				l := slices.Repeat(extsOf(ext(n, slices.Repeat(bytesOf(n), size)...)), count)
				checkExts(t, "a list of one number", l, isExtList(l))
				checkExtOf(t, l, n)
				if got := impl.KnownOf(l, bytesOf(n)); fmt.Sprint(got) != fmt.Sprint(l) {
					t.Errorf("KnownOf(%v, [%d]) is %v", l, n, got)
				}
				if got := impl.TagsOf(l); !slices.Equal(got, slices.Repeat(bytesOf(n), count)) {
					t.Errorf("TagsOf(%v) is %v", l, got)
				}
				if !impl.EqualExts(l, slices.Clone(l)) {
					t.Errorf("EqualExts(%v) is false", l)
				}
			}
		}
		for size := range 40 {
			checkExtReadings(t, "a list of one number", slices.Repeat(bytesOf(n), size))
		}
	}
}

func TestManyExts(t *testing.T) {
	const many = 100000
	same := slices.Repeat(extsOf(ext(1, 7)), many)
	var apart []impl.Ext
	for i := range many {
		apart = append(apart, ext(i, i))
	}
	checkExts(t, "many with the same Tag", same, false)
	checkExts(t, "many with Tags of their own", apart, false)
	if got := impl.ExtOf(same, 1); got != 0 {
		t.Errorf("ExtOf of many is %d", got)
	}
	if got := impl.ExtOf(apart, many-1); got != many-1 {
		t.Errorf("ExtOf of the last of many is %d", got)
	}
	for _, l := range [][]impl.Ext{same, apart} {
		tags := impl.TagsOf(l)
		if known := impl.KnownOf(l, tags); len(tags) != many || !impl.EqualExts(known, l) {
			t.Errorf("KnownOf of many gives %d", len(known))
		}
	}
	for _, first := range bytesOf(0, 1, 6, 7, many-1, many) {
		checkExtBytes(t, "many integers", append(bytesOf(first), make([]int, many)...), nil)
		checkExtBytes(t, "a long Body", append(bytesOf(1, 0, first), make([]int, many)...), nil)
	}
}

// markedExts returns a copy of a list with marks in the spare capacity of the list and
// of each Body.
func markedExts(l []impl.Ext) []impl.Ext {
	out := extsOf()
	for _, x := range l {
		out = append(out, ext(x.Tag, markedBytes(x.Body)...))
	}
	return append(out, slices.Repeat(extsOf(ext(78, 79)), 8)...)[:len(l)]
}

// memoryOfExts prints all memory behind a list, its spare capacity too.
func memoryOfExts(l []impl.Ext) string {
	text := fmt.Sprint(len(l), l == nil, whole(l))
	for _, x := range whole(l) {
		text += fmt.Sprint(len(x.Body), x.Body == nil, whole(x.Body))
	}
	return text
}

// unfitExts returns lists that may not be written, too.
func unfitExts() [][]impl.Ext {
	return append(someExts(), nil, make([]impl.Ext, 9), extsOf(ext(-1, -1, 300), ext(5, 1, 2, 3, 4, 5), ext(-1)),
		extsOf(ext(256)), extsOf(ext(1), ext(1, 2)))
}

func TestExtensionsKeepArguments(t *testing.T) {
	for _, l := range unfitExts() {
		for _, other := range unfitExts() {
			l, other, tags := markedExts(l), markedExts(other), markedBytes(impl.TagsOf(l))
			before, otherBefore, tagsBefore := memoryOfExts(l), memoryOfExts(other), slices.Clone(whole(tags))
			impl.AreExts(l)
			impl.EncodeExts(l)
			impl.TagsOf(l)
			impl.ExtOf(l, 5)
			impl.KnownOf(l, tags)
			impl.KnownOf(other, tags)
			impl.EqualExts(l, other)
			impl.EqualExts(l, l)
			if memoryOfExts(l) != before || memoryOfExts(other) != otherBefore || !slices.Equal(whole(tags), tagsBefore) {
				t.Errorf("an argument is changed to %v, %v, %v", whole(l), whole(other), whole(tags))
			}
		}
		b := markedBytes(writtenExts(l))
		before := slices.Clone(whole(b))
		for size := range len(b) + 2 {
			impl.DecodeExts(b[:size])
		}
		if !slices.Equal(whole(b), before) {
			t.Errorf("the integers are changed to %v from %v", whole(b), before)
		}
	}
}

// bodiesOf returns the bodies of a list, in its spare capacity too.
func bodiesOf(l []impl.Ext) [][]int {
	var all [][]int
	for _, x := range whole(l) {
		all = append(all, x.Body)
	}
	return all
}

func TestExtensionsShareNoMemory(t *testing.T) {
	for _, l := range someExts() {
		l, b, tags := markedExts(l), markedBytes(writtenExts(l)), markedBytes(impl.TagsOf(l))
		all := [][]int{whole(b), whole(tags)}
		for _, x := range l {
			all = append(all, x.Body)
		}
		for range 2 {
			out, _ := impl.EncodeExts(l)
			read, _ := impl.DecodeExts(b)
			known := impl.KnownOf(l, tags)
			all = slices.Concat(all, [][]int{out, impl.TagsOf(l)}, bodiesOf(read), bodiesOf(known))
			// The lists themselves are no more shared than what is in them.
			clear(whole(read))
			clear(whole(known))
			if again, _ := impl.DecodeExts(b); fmt.Sprint(again) != fmt.Sprint(l) || fmt.Sprint(impl.KnownOf(l, tags)) != fmt.Sprint(l) {
				t.Errorf("%v shares memory with what was made of it", l)
			}
		}
		checkApart(t, fmt.Sprint(l), all)
	}
}

// A Body that stands in a list twice stands in the result as two.
func TestKnownExtsWithTheSameBody(t *testing.T) {
	body := markedBytes(bytesOf(1, 2, 3))
	l := extsOf(ext(1, body...), ext(2, body...), ext(1, body[:0]...), ext(2, body[1:]...))
	known := impl.KnownOf(l, bytesOf(1, 2))
	if fmt.Sprint(known) != fmt.Sprint(l) {
		t.Fatalf("KnownOf(%v) is %v", l, known)
	}
	checkApart(t, "the same Body", append(bodiesOf(known), whole(body)))
}

// Also the empty results are the caller's own.
func TestEmptyExtensionsShareNoMemory(t *testing.T) {
	wrong, empty, none := markedExts(extsOf(ext(-1))), markedExts(nil), markedBytes(nil)
	before, emptyBefore, noneBefore := memoryOfExts(wrong), memoryOfExts(empty), slices.Clone(whole(none))
	for range 2 {
		b, _ := impl.EncodeExts(wrong)
		read, _ := impl.DecodeExts(none)
		nothing, ok := impl.DecodeExts(bytesOf(0))
		if !ok {
			t.Error("no extensions are not read")
		}
		for _, l := range [][]impl.Ext{read, nothing, impl.KnownOf(wrong, none), impl.KnownOf(empty, bytesOf(1))} {
			if len(l) != 0 {
				t.Error(l)
			}
			for i := range whole(l) {
				whole(l)[i] = ext(7)
			}
		}
		for _, x := range [][]int{b, impl.TagsOf(empty)} {
			if len(x) != 0 {
				t.Error(x)
			}
			for i := range whole(x) {
				whole(x)[i] = 7
			}
		}
	}
	if memoryOfExts(wrong) != before || memoryOfExts(empty) != emptyBefore || !slices.Equal(whole(none), noneBefore) {
		t.Errorf("an argument is changed to %v, %v, %v", whole(wrong), whole(empty), whole(none))
	}
}
