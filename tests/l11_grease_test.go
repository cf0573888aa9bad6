package tests

import (
	"fmt"
	"math"
	"slices"
	"testing"

	"loop.example/g03000/impl"
)

// Promise 11: reserved values change nothing that is known (chapter 11).

// greaseTagOf looks the tag up in the list of all reserved ones, where the program
// calculates it.
func greaseTagOf(seed int) int {
	return reservedTags()[pickOf(seed, 0, 16)]
}

func tagIsIn(l []impl.Ext, tag int) bool {
	return slices.ContainsFunc(l, func(x impl.Ext) bool { return x.Tag == tag })
}

// greased inserts by another way than the program's: it puts the extension at the end
// and moves it to the front. It also says whether it inserts.
func greased(l []impl.Ext, seed int) ([]impl.Ext, bool) {
	tag := greaseTagOf(seed)
	if !isExtList(l) || len(l) > 5 || tagIsIn(l, tag) {
		return l, false
	}
	fill := pickOf(seed, 3, 256)
	out := append(slices.Clone(l), ext(tag, bytesOf(fill, fill)[:pickOf(seed, 2, 3)]...))
	for i := len(l); i > pickOf(seed, 1, len(l)+1); i-- {
		out[i-1], out[i] = out[i], out[i-1]
	}
	return out, true
}

// stripped leaves out what is reserved, where the program gathers what is not.
func stripped(l []impl.Ext) []impl.Ext {
	return slices.DeleteFunc(slices.Clone(l), func(x impl.Ext) bool { return slices.Contains(reservedTags(), x.Tag) })
}

func checkAddGrease(t *testing.T, name string, l []impl.Ext, seed int, want []impl.Ext) {
	t.Helper()
	if got := impl.AddGrease(l, seed); fmt.Sprint(got) != fmt.Sprint(want) {
		t.Errorf("%s: AddGrease(%.300v, %d) is %.300v, not %.300v", name, fmt.Sprint(l), seed, fmt.Sprint(got), fmt.Sprint(want))
	}
}

func checkStrip(t *testing.T, name string, l []impl.Ext, want []impl.Ext) {
	t.Helper()
	if got := impl.StripGrease(l); fmt.Sprint(got) != fmt.Sprint(want) {
		t.Errorf("%s: StripGrease(%.300v) is %.300v, not %.300v", name, fmt.Sprint(l), fmt.Sprint(got), fmt.Sprint(want))
	}
	// Something is left out exactly where there is something reserved.
	if got := impl.HasGrease(l); got != (len(want) < len(l)) {
		t.Errorf("%s: HasGrease(%.300v) is %v", name, fmt.Sprint(l), got)
	}
}

// checkGrease holds what the program makes of a list and a seed against what the test
// makes of them.
func checkGrease(t *testing.T, name string, l []impl.Ext, seed int) {
	t.Helper()
	want, inserted := greased(l, seed)
	checkAddGrease(t, name, l, seed, want)
	checkStrip(t, name, l, stripped(l))
	// What is inserted is all that is stripped again, and it is inserted only once.
	checkStrip(t, name, want, stripped(l))
	checkAddGrease(t, name, want, seed, want)
	if !inserted {
		return
	}
	got := impl.AddGrease(l, seed)
	checkExts(t, name, got, true)
	count := 0
	for _, x := range got {
		if x.Tag == impl.GreaseTag(seed) {
			count++
		}
	}
	if len(got) != len(l)+1 || count != 1 || !impl.HasGrease(got) {
		t.Errorf("%s: AddGrease(%v, %d) is %v", name, l, seed, got)
	}
}

// checkKnown is the promise: of what is sent with reserved values and of what is left
// without them, the same is known.
func checkKnown(t *testing.T, name string, l []impl.Ext, seed int, tags []int) {
	t.Helper()
	want := knownOf(l, tags)
	for _, changed := range [][]impl.Ext{impl.AddGrease(l, seed), impl.StripGrease(l), impl.StripGrease(impl.AddGrease(l, seed))} {
		if got := impl.KnownOf(changed, tags); fmt.Sprint(got) != fmt.Sprint(want) {
			t.Errorf("%s: of %v with %d, %v is known by %v, not %v", name, l, seed, got, tags, want)
		}
	}
	left, added := impl.StripGrease(l), impl.StripGrease(impl.AddGrease(l, seed))
	if !impl.EqualExts(added, left) {
		t.Errorf("%s: %v with %d leaves %v, not %v", name, l, seed, added, left)
	}
}

// listsAround returns lists with a tag at every place of lists of every length.
func listsAround(tag int) [][]impl.Ext {
	var lists [][]impl.Ext
	for count := range 8 {
		l := extsOf()
		for i := range count {
			l = append(l, ext(3*i, longBody(i%5)...))
		}
		for i := range len(l) + 1 {
			lists = append(lists, slices.Insert(slices.Clone(l), i, ext(tag)), slices.Insert(slices.Clone(l), i, ext(tag, 1, 2)))
		}
	}
	return lists
}

// wrongExts returns lists that are not valid, some by what is in or about a reserved
// Tag.
func wrongExts() [][]impl.Ext {
	return [][]impl.Ext{
		make([]impl.Ext, 2), make([]impl.Ext, 7), {ext(-1)}, {ext(256)}, {ext(266)}, {ext(-6)}, {ext(math.MinInt)}, {ext(math.MaxInt)},
		{ext(10), ext(10)}, {ext(26, 1), ext(3), ext(26, 1)}, {ext(1), ext(1), ext(10)}, {ext(10, 1, 2, 3, 4, 5)}, {ext(5, 1, 2, 3, 4, 5)},
		{ext(10, -1)}, {ext(26, 256), ext(3)}, {ext(1, math.MinInt), ext(2, math.MaxInt)}, {ext(250, math.MaxInt)},
		{ext(10), ext(26), ext(42), ext(58), ext(74), ext(90), ext(106)}, {ext(1), ext(2), ext(3), ext(4), ext(5), ext(6), ext(7)},
		{ext(-6), ext(10), ext(266), ext(26), ext(-6)}, {ext(9), ext(10), ext(11), ext(250), ext(251), ext(255), ext(256)},
		{ext(1<<32 + 10), ext(-246), ext(10 - 1<<32)},
	}
}

func TestGreaseTag(t *testing.T) {
	cases := map[int]int{
		0: 154, 1: 202, 2: 250, 3: 42, 4: 90, 5: 138, 6: 186, 7: 234, 8: 26, 9: 74, 10: 122, 11: 170, 12: 218, -1: 106, -2: 58,
		math.MaxInt: 202, math.MinInt: 58,
	}
	for seed, want := range cases {
		if got := impl.GreaseTag(seed); got != want {
			t.Errorf("GreaseTag(%d) is %d, not %d", seed, got, want)
		}
	}
	met := map[int]bool{}
	for _, seed := range someSeeds() {
		got := impl.GreaseTag(seed)
		if got != greaseTagOf(seed) || got != 16*impl.PickOf(seed, 0, 16)+10 || !impl.IsReserved(got) {
			t.Errorf("GreaseTag(%d) is %d, not %d", seed, got, greaseTagOf(seed))
		}
		met[got] = true
	}
	if len(met) != 16 {
		t.Errorf("%d reserved tags are met, not 16", len(met))
	}
}

func TestAddGrease(t *testing.T) {
	l := extsOf(ext(1, 7), ext(40))
	five := extsOf(ext(1), ext(2, 2), ext(3), ext(4, 0, 0, 0, 0), ext(5))
	six := append(slices.Clone(five), ext(6))
	cases := []struct {
		name string
		l    []impl.Ext
		seed int
		want []impl.Ext
	}{
		{"nil", nil, 0, extsOf(ext(154, 92, 92))},
		{"empty", extsOf(), 2, extsOf(ext(250, 226))},
		{"empty before spare capacity", six[:0], 1, extsOf(ext(202))},
		{"at the front of one", extsOf(ext(9, 9)), 8, extsOf(ext(26, 116), ext(9, 9))},
		{"behind one", extsOf(ext(9, 9)), 3, extsOf(ext(9, 9), ext(42, 37, 37))},
		{"at the front of two", l, 9, extsOf(ext(1, 7), ext(74, 183, 183), ext(40))},
		{"at the front, a Body of one byte", l, 2, extsOf(ext(250, 226), ext(1, 7), ext(40))},
		{"between, a Body of two bytes", l, 0, extsOf(ext(1, 7), ext(154, 92, 92), ext(40))},
		{"behind the last, no Body", l, 1, extsOf(ext(1, 7), ext(40), ext(202))},
		{"behind the last of five, no Body", five, 1, append(slices.Clone(five), ext(202))},
		{"behind the last but one of five, a Body of two bytes", five, 12, slices.Insert(slices.Clone(five), 4, ext(218, 128, 128))},
		{"at the front of five, a Body of one byte", five, 2, slices.Insert(slices.Clone(five), 0, ext(250, 226))},
		{"five before spare capacity", six[:5], 7, append(slices.Clone(five), ext(234))},
		{"a Body in the spare capacity", extsOf(ext(1, bytesOf(7, 8)[:1]...)), 3, extsOf(ext(1, 7), ext(42, 37, 37))},
		{"a nil Body and an empty one", extsOf(impl.Ext{Tag: 1}, impl.Ext{Tag: 2, Body: []int{}}), 0, extsOf(ext(1), ext(154, 92, 92), ext(2))},
		{"a seed of -1", nil, -1, extsOf(ext(106, 25))},
		{"the least seed", nil, math.MinInt, extsOf(ext(58))},
		{"the greatest seed", l, math.MaxInt, extsOf(ext(1, 7), ext(40), ext(202))},
		{"another reserved Tag is there", extsOf(ext(10), ext(26)), 0, extsOf(ext(10), ext(154, 92, 92), ext(26))},

		{"MaxExts", six, 0, six},
		{"MaxExts, one of them the Tag", append(slices.Clone(five), ext(154)), 0, append(slices.Clone(five), ext(154))},
		{"more than MaxExts", append(slices.Clone(six), ext(7)), 0, append(slices.Clone(six), ext(7))},
		{"the Tag alone", extsOf(ext(154)), 0, extsOf(ext(154))},
		{"the Tag alone, with another Body", extsOf(ext(154, 1, 2, 3)), 0, extsOf(ext(154, 1, 2, 3))},
		{"the Tag first", extsOf(ext(202, 5), ext(1), ext(2)), 1, extsOf(ext(202, 5), ext(1), ext(2))},
		{"the Tag in the middle", extsOf(ext(1), ext(202), ext(2)), 1, extsOf(ext(1), ext(202), ext(2))},
		{"the Tag last", extsOf(ext(1), ext(2), ext(202)), 1, extsOf(ext(1), ext(2), ext(202))},
		{"the Tag in the spare capacity", extsOf(ext(1), ext(202))[:1], 1, extsOf(ext(1), ext(202))},
		{"the Tag as a byte of a Body", extsOf(ext(1, 202)), 1, extsOf(ext(1, 202), ext(202))},
		{"a Tag of -1", extsOf(ext(-1)), 3, extsOf(ext(-1))},
		{"a Tag of 256", extsOf(ext(1), ext(256)), 3, extsOf(ext(1), ext(256))},
		{"the Tag modulo 256", extsOf(ext(298)), 3, extsOf(ext(298))},
		{"the same Tag twice", extsOf(ext(1), ext(1, 2)), 3, extsOf(ext(1), ext(1, 2))},
		{"a Body of five bytes", extsOf(ext(1, 1, 2, 3, 4, 5)), 3, extsOf(ext(1, 1, 2, 3, 4, 5))},
		{"a Body of 256", extsOf(ext(1, 256)), 3, extsOf(ext(1, 256))},
		{"a Body of -1", extsOf(ext(1), ext(2, -1)), 3, extsOf(ext(1), ext(2, -1))},
		{"two zero Exts", make([]impl.Ext, 2), 3, make([]impl.Ext, 2)},
		{"the zero Ext", make([]impl.Ext, 1), 3, extsOf(ext(0), ext(42, 37, 37))},
	}
	for _, c := range cases {
		checkAddGrease(t, c.name, c.l, c.seed, c.want)
		checkGrease(t, c.name, c.l, c.seed)
	}
}

// Every index, every length of a Body and every reserved Tag is inserted.
func TestAddGreaseEverywhere(t *testing.T) {
	for count := range 6 {
		indices, sizes, tags := map[int]bool{}, map[int]bool{}, map[int]bool{}
		l := extsOf()
		for i := range count {
			l = append(l, ext(51*i, longBody(4-i%5)...))
		}
		for seed := range 300 {
			checkGrease(t, "a list of each length", l, seed)
			got := impl.AddGrease(l, seed)
			place := impl.ExtOf(got, impl.GreaseTag(seed))
			if place < 0 || place != impl.PickOf(seed, 1, count+1) {
				t.Fatalf("AddGrease(%v, %d) is %v", l, seed, got)
			}
			x := got[place]
			indices[place], sizes[len(x.Body)], tags[x.Tag] = true, true, true
		}
		if len(indices) != count+1 || len(sizes) != 3 || len(tags) != 16 {
			t.Errorf("in %d extensions: the indices %v, the lengths %v, the tags %v", count, indices, sizes, tags)
		}
	}
}

func TestAddGreaseWhereTheTagIsThere(t *testing.T) {
	for _, seed := range someSeeds() {
		tag := greaseTagOf(seed)
		for _, l := range listsAround(tag) {
			checkAddGrease(t, "the Tag is there", l, seed, l)
		}
		for _, l := range listsAround((tag + 16) % 256) {
			checkGrease(t, "another reserved Tag", l, seed)
		}
		for _, near := range bytesOf(tag-1, tag+1, tag-256, tag+256, tag+1<<32) {
			checkGrease(t, "a Tag that is near", extsOf(ext(1), ext(near)), seed)
		}
	}
}

// A list takes reserved values until it is full.
func TestAddGreaseUntilFull(t *testing.T) {
	for first := range 50 {
		for _, start := range [][]impl.Ext{nil, {ext(1, 7)}, {ext(0), ext(255, 1, 2, 3, 4)}} {
			l := start
			for seed := first; seed < first+100; seed++ {
				checkGrease(t, "one after the other", l, seed)
				l = impl.AddGrease(l, seed)
			}
			if len(l) != impl.MaxExts || !impl.EqualExts(impl.StripGrease(l), start) {
				t.Errorf("%v takes reserved values until it is %v", start, l)
			}
		}
	}
}

func TestStripGreaseAndHasGrease(t *testing.T) {
	long := ext(10, 1, 2, 3, 4, 5, 6)
	cases := []struct {
		name string
		l    []impl.Ext
		want []impl.Ext
	}{
		{"nil", nil, nil},
		{"empty", extsOf(), nil},
		{"reserved in the spare capacity", extsOf(ext(1), ext(10))[:1], extsOf(ext(1))},
		{"reserved in the spare capacity alone", extsOf(ext(10))[:0], nil},
		{"the zero Ext", make([]impl.Ext, 1), make([]impl.Ext, 1)},
		{"none reserved", extsOf(ext(1, 7), ext(40), ext(255)), extsOf(ext(1, 7), ext(40), ext(255))},
		{"one that is reserved", extsOf(ext(10, 7)), nil},
		{"all reserved", extsOf(ext(10, 1), ext(26), ext(250, 3, 4)), nil},
		{"all reserved, MaxExts of them", extsOf(ext(10), ext(26), ext(42), ext(58), ext(74), ext(90)), nil},
		{"all reserved tags", extsOf(ext(10), ext(26), ext(42), ext(58), ext(74), ext(90), ext(106), ext(122), ext(138),
			ext(154), ext(170), ext(186), ext(202), ext(218), ext(234), ext(250)), nil},
		{"the same reserved Tag", extsOf(ext(26, 1), ext(26), ext(26, 1)), nil},
		{"the same reserved Tag between others", extsOf(ext(26, 1), ext(5, 2), ext(26), ext(4), ext(26, 1)), extsOf(ext(5, 2), ext(4))},
		{"reserved at the front", extsOf(ext(250), ext(2), ext(1)), extsOf(ext(2), ext(1))},
		{"reserved in the middle", extsOf(ext(2), ext(250), ext(1)), extsOf(ext(2), ext(1))},
		{"reserved at the end", extsOf(ext(2), ext(1), ext(250)), extsOf(ext(2), ext(1))},
		{"reserved as a byte of a Body", extsOf(ext(1, 10, 26)), extsOf(ext(1, 10, 26))},
		{"the tags about reserved ones", extsOf(ext(9), ext(10), ext(11), ext(26), ext(250), ext(255), ext(256), ext(266), ext(-6)),
			extsOf(ext(9), ext(11), ext(255), ext(256), ext(266), ext(-6))},
		{"tags that are reserved modulo 256", extsOf(ext(266), ext(-246), ext(1<<32+10), ext(-6)), extsOf(ext(266), ext(-246), ext(1<<32+10), ext(-6))},
		{"the least and the greatest Tag", extsOf(ext(math.MaxInt), ext(10), ext(math.MinInt, 1)), extsOf(ext(math.MaxInt), ext(math.MinInt, 1))},
		{"bodies that are none", extsOf(ext(1, -1, 256), long, ext(2, math.MinInt, math.MaxInt)), extsOf(ext(1, -1, 256), ext(2, math.MinInt, math.MaxInt))},
		{"the same open Tag", extsOf(ext(5, 1), ext(10), ext(5, 2), ext(5, 1)), extsOf(ext(5, 1), ext(5, 2), ext(5, 1))},
		{"more than MaxExts", make([]impl.Ext, 9), make([]impl.Ext, 9)},
		{"a nil Body and an empty one", extsOf(impl.Ext{Tag: 1}, impl.Ext{Tag: 10}, impl.Ext{Tag: 2, Body: []int{}}), extsOf(ext(1), ext(2))},
	}
	for _, c := range cases {
		checkStrip(t, c.name, c.l, c.want)
		for _, seed := range bytesOf(0, 1, -1, math.MinInt, math.MaxInt) {
			checkGrease(t, c.name, c.l, seed)
		}
	}
	for tag := -300; tag <= 600; tag++ {
		checkStrip(t, "one tag", extsOf(ext(tag)), stripped(extsOf(ext(tag))))
		checkStrip(t, "one tag among others", extsOf(ext(3), ext(tag, 10), ext(7)), stripped(extsOf(ext(3), ext(tag, 10), ext(7))))
	}
}

func checkHardened(t *testing.T, name string, refused []int, want bool) {
	t.Helper()
	if got := impl.IsHardened(refused); got != want {
		t.Errorf("%s: IsHardened(%.300v) is %v", name, fmt.Sprint(refused), got)
	}
}

func TestIsHardened(t *testing.T) {
	cases := []struct {
		name    string
		refused []int
		want    bool
	}{
		{"nil", nil, false},
		{"empty", []int{}, false},
		{"reserved in the spare capacity", bytesOf(1, 10)[:1], false},
		{"9", bytesOf(9), false},
		{"10", bytesOf(10), true},
		{"11", bytesOf(11), false},
		{"26", bytesOf(26), true},
		{"250", bytesOf(250), true},
		{"255", bytesOf(255), false},
		{"256", bytesOf(256), false},
		{"266", bytesOf(266), false},
		{"-6", bytesOf(-6), false},
		{"0", bytesOf(0), false},
		{"16", bytesOf(16), false},
		{"none reserved", bytesOf(1, 9, 11, 255, 256, 266, -6), false},
		{"none reserved, one repeated", bytesOf(9, 9, 9), false},
		{"the first one reserved", bytesOf(10, 1, 2), true},
		{"one in the middle reserved", bytesOf(1, 26, 2), true},
		{"the last one reserved", bytesOf(1, 2, 250), true},
		{"all reserved", reservedTags(), true},
		{"one reserved, repeated", bytesOf(26, 26, 26), true},
		{"all but the reserved", openTags, false},
		{"the least and the greatest int", bytesOf(math.MinInt, math.MaxInt), false},
		{"the least and the greatest int about a reserved one", bytesOf(math.MinInt, 42, math.MaxInt), true},
		{"ints that leave 10", bytesOf(math.MinInt+10, math.MaxInt-5, 1<<32+10, -246), false},
	}
	for _, c := range cases {
		checkHardened(t, c.name, c.refused, c.want)
	}
	for tag := -300; tag <= 600; tag++ {
		want := slices.Contains(reservedTags(), tag)
		checkHardened(t, "one tag", bytesOf(tag), want)
		checkHardened(t, "a tag among others", bytesOf(-1, 9, tag, 11, 256), want)
	}
	for _, n := range byteLimits() {
		for size := range 5 {
			checkHardened(t, "one number", slices.Repeat(bytesOf(n), size), n == 10 && size > 0)
		}
	}
}

// greaseLists returns valid lists with and without reserved tags, and lists that are
// not valid.
func greaseLists() [][]impl.Ext {
	lists := append(someExts(), nil, extsOf(ext(10)), extsOf(ext(9), ext(10), ext(11)), extsOf(ext(250, 1), ext(251), ext(26)),
		extsOf(ext(154), ext(1), ext(202), ext(2, 7), ext(250)))
	return slices.Concat(lists, unfitExts(), wrongExts())
}

// knownTags returns lists of tags without reserved ones.
func knownTags(l []impl.Ext) [][]int {
	isNone := func(tag int) bool { return slices.Contains(reservedTags(), tag) }
	own := slices.DeleteFunc(impl.TagsOf(l), isNone)
	lists := [][]int{nil, {}, own, openTags, {1, 40}, {9, 11, 255}, {-1, 256, 266, -6}, {math.MinInt, 0, math.MaxInt}, slices.Repeat(own, 2)}
	for i := range own {
		lists = append(lists, own[i:], own[:i])
	}
	return lists
}

func TestReservedValuesChangeNothingKnown(t *testing.T) {
	for _, l := range greaseLists() {
		for _, seed := range someSeeds() {
			checkGrease(t, "a list", l, seed)
		}
		for _, tags := range knownTags(l) {
			for _, seed := range append(someNumbers(), 8, 9, 10, 11, 12, 13, 14, 15, 16, 17) {
				checkKnown(t, "a list", l, seed, tags)
			}
		}
	}
}

// Lists and tags by chance, with many reserved tags among few others.
func TestReservedValuesByChance(t *testing.T) {
	inserted, kept := 0, 0
	for seed := range 4000 {
		pick := chance(seed)
		l := extsOf()
		for range pick.IntN(8) {
			tag := pick.IntN(256)
			if pick.IntN(2) == 0 {
				tag = reservedTags()[pick.IntN(16)]
			}
			body := make([]int, pick.IntN(5))
			for i := range body {
				body[i] = pick.IntN(256)
			}
			l = append(l, ext(tag, body...))
		}
		tags := impl.TagsOf(stripped(l))
		tags = append(tags[:pick.IntN(len(tags)+1)], openTags[pick.IntN(len(openTags))])
		checkGrease(t, "by chance", l, seed)
		checkKnown(t, "by chance", l, seed, tags)
		if _, ok := greased(l, seed); ok {
			inserted++
		} else {
			kept++
		}
	}
	if inserted < 1000 || kept < 500 {
		t.Errorf("%d lists take a reserved value, and %d do not", inserted, kept)
	}
}

// Every list of a few extensions, so that each kind of fault stands at each place.
func TestEveryShortListWithGrease(t *testing.T) {
	all := extsOf(
		ext(-6), ext(0, 10), ext(9), ext(10, 1), ext(10, 300), ext(26), ext(154), ext(202, 1, 2, 3, 4), ext(202, 1, 2, 3, 4, 5),
		ext(250, 255), ext(255), ext(266, 1),
	)
	numbers := []int{}
	for i := range all {
		numbers = append(numbers, i)
	}
	eachList(numbers, 3, func(b []int) {
		l := extsOf()
		for _, i := range b {
			l = append(l, all[i])
		}
		for seed := range 3 {
			checkGrease(t, "a short list", l, seed)
			checkKnown(t, "a short list", l, seed, bytesOf(0, 9, 255, -6, 266))
		}
	})
}

func TestGreaseWithAnyIntEverywhere(t *testing.T) {
	for _, n := range append(byteLimits(), 9, 11, 26, 250, 266, -6) {
		for count := range 8 {
			for size := range 6 {
				l := slices.Repeat(extsOf(ext(n, slices.Repeat(bytesOf(n), size)...)), count)
				checkGrease(t, "a list of one number", l, n)
				checkGrease(t, "a list of one number", append(l, ext(1)), n)
			}
		}
		for _, l := range greaseLists() {
			checkGrease(t, "a Tag at the front", slices.Concat(extsOf(ext(n)), l), n)
			checkGrease(t, "a Tag at the end", slices.Concat(l, extsOf(ext(n, n))), n)
		}
	}
}

func TestMuchGrease(t *testing.T) {
	const many = 100000
	var l, open []impl.Ext
	for i := range many {
		l = append(l, ext(i%256, i))
		if !slices.Contains(reservedTags(), i%256) {
			open = append(open, ext(i%256, i))
		}
	}
	if got := impl.StripGrease(l); !impl.EqualExts(got, open) {
		t.Errorf("of many, %d are left", len(got))
	}
	if got := impl.StripGrease(slices.Repeat(extsOf(ext(26)), many)); len(got) != 0 {
		t.Errorf("of many reserved ones, %d are left", len(got))
	}
	if !impl.EqualExts(impl.AddGrease(l, 3), l) {
		t.Error("something is inserted in many")
	}
	if !impl.HasGrease(l) || impl.HasGrease(open) {
		t.Error("HasGrease of many")
	}
	checkHardened(t, "many", impl.TagsOf(open), false)
	checkHardened(t, "many and one", append(impl.TagsOf(open), 250), true)
}

func TestGreaseKeepsArguments(t *testing.T) {
	for _, l := range greaseLists() {
		l, tags := markedExts(l), markedBytes(impl.TagsOf(l))
		before, tagsBefore := memoryOfExts(l), slices.Clone(whole(tags))
		for _, seed := range someSeeds() {
			impl.AddGrease(l, seed)
		}
		impl.StripGrease(l)
		impl.HasGrease(l)
		impl.IsHardened(tags)
		if memoryOfExts(l) != before || !slices.Equal(whole(tags), tagsBefore) {
			t.Errorf("an argument is changed to %v, %v", whole(l), whole(tags))
		}
	}
}

func TestGreaseSharesNoMemory(t *testing.T) {
	for _, l := range greaseLists() {
		for _, seed := range bytesOf(0, 1, 2, 3, 7) {
			l := markedExts(l)
			before := memoryOfExts(l)
			want, _ := greased(l, seed)
			// The marks in the spare capacity have one Body together.
			all := bodiesOf(l[:len(l):len(l)])
			for range 2 {
				added, left := impl.AddGrease(l, seed), impl.StripGrease(l)
				all = slices.Concat(all, bodiesOf(added), bodiesOf(left))
				// The lists themselves are no more shared than what is in them.
				for _, x := range [][]impl.Ext{whole(added), whole(left)} {
					for i := range x {
						x[i] = ext(7)
					}
				}
			}
			if memoryOfExts(l) != before {
				t.Errorf("an argument is changed to %v", whole(l))
			}
			checkAddGrease(t, "once more", l, seed, want)
			checkApart(t, fmt.Sprint(l), all)
		}
	}
}

// A Body that stands in a list twice stands in the result as two.
func TestGreaseWithTheSameBody(t *testing.T) {
	for seed := range 20 {
		for _, count := range bytesOf(1, 2) {
			body := markedBytes(bytesOf(1, 2, 3))
			l := slices.Repeat(extsOf(ext(1, body...), ext(2, body...), ext(26, body[:0]...), ext(5, body[1:]...)), count)
			want, _ := greased(l, seed)
			checkAddGrease(t, "the same Body", l, seed, want)
			checkStrip(t, "the same Body", l, stripped(l))
			made := slices.Concat(bodiesOf(impl.AddGrease(l, seed)), bodiesOf(impl.StripGrease(l)))
			checkApart(t, "the same Body", append(made, whole(body)))
		}
	}
}

// Also the empty results are the caller's own.
func TestEmptyGreaseSharesNoMemory(t *testing.T) {
	none, reserved, full := markedExts(nil), markedExts(extsOf(ext(10), ext(26))), markedExts(slices.Repeat(extsOf(ext(26)), 9))
	lists := [][]impl.Ext{none, reserved, full}
	var before []string
	for _, l := range lists {
		before = append(before, memoryOfExts(l))
	}
	for range 2 {
		for i, l := range lists {
			left := impl.StripGrease(l)
			if len(left) != 0 {
				t.Errorf("StripGrease(%v) is %v", l, left)
			}
			for k := range whole(left) {
				whole(left)[k] = ext(7)
			}
			if memoryOfExts(l) != before[i] {
				t.Errorf("an argument is changed to %v", whole(l))
			}
		}
	}
}
