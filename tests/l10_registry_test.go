package tests

import (
	"fmt"
	"math"
	"math/rand/v2"
	"slices"
	"testing"

	"loop.example/g03000/impl"
)

// Promise 10: no number is given twice (chapter 10).

func entry(tag int, vendor int) impl.Entry {
	return impl.Entry{Tag: tag, Vendor: vendor}
}

func oldEntry(tag int, vendor int) impl.Entry {
	return impl.Entry{Tag: tag, Vendor: vendor, Old: true}
}

// entriesOf returns a list that is not nil, also if it is empty.
func entriesOf(entries ...impl.Entry) []impl.Entry {
	return append([]impl.Entry{}, entries...)
}

// reservedTags counts the reserved tags up, where the program divides.
func reservedTags() []int {
	var tags []int
	for tag := 10; tag < 256; tag += 16 {
		tags = append(tags, tag)
	}
	return tags
}

// openTags are all tags that may be given, in order.
var openTags = func() []int {
	var tags []int
	reserved := append(reservedTags(), 256)
	for tag := range 256 {
		if tag == reserved[0] {
			reserved = reserved[1:]
			continue
		}
		tags = append(tags, tag)
	}
	return tags
}()

// isEntryList says by another way than the program's whether a list is a registry: it
// goes through the tags that may be given, and takes away the entries that it meets.
func isEntryList(l []impl.Entry) bool {
	rest := l
	for _, tag := range openTags {
		if len(rest) > 0 && rest[0].Tag == tag && slices.Contains(bytesOf(0, 1, 2, 3, 4, 5, 6, 7, 8, 9), rest[0].Vendor) {
			rest = rest[1:]
		}
	}
	return len(rest) == 0 && len(l) < 13
}

// firstEntry returns the first entry with a tag, and its place, or -1.
func firstEntry(l []impl.Entry, tag int) (impl.Entry, int) {
	for i, x := range l {
		if x.Tag == tag {
			return x, i
		}
	}
	return impl.Entry{}, -1
}

// assigned gives a tag by another way than the program's: it puts the entry at the end
// and moves it to the front until its order is right.
func assigned(l []impl.Entry, vendor int) ([]impl.Entry, int, bool) {
	if !isEntryList(l) || len(l) > 11 || vendor < 0 || vendor > 9 {
		return l, -1, false
	}
	free := slices.Clone(openTags)
	for _, x := range l {
		free = slices.DeleteFunc(free, func(tag int) bool { return tag == x.Tag })
	}
	out := append(slices.Clone(l), entry(free[0], vendor))
	for i := len(out) - 1; i > 0 && out[i-1].Tag > out[i].Tag; i-- {
		out[i-1], out[i] = out[i], out[i-1]
	}
	return out, free[0], true
}

// retired sets Old by another way than the program's.
func retired(l []impl.Entry, tag int) ([]impl.Entry, bool) {
	x, place := firstEntry(l, tag)
	if !isEntryList(l) || place < 0 || x.Old {
		return l, false
	}
	return slices.Concat(l[:place], entriesOf(oldEntry(x.Tag, x.Vendor)), l[place+1:]), true
}

func ownerOf(l []impl.Entry, tag int) int {
	if x, place := firstEntry(l, tag); place >= 0 {
		return x.Vendor
	}
	return -1
}

// clashesOf leaves out what is no clash, where the program gathers what is one.
func clashesOf(l []impl.Entry, tags []int, vendor int) []int {
	return slices.DeleteFunc(slices.Clone(tags), func(tag int) bool {
		owner := ownerOf(l, tag)
		return !slices.Contains(reservedTags(), tag) && (owner == vendor || owner < 0)
	})
}

// liveTags strikes out what is Old.
func liveTags(l []impl.Entry) []int {
	tags := []int{}
	for _, x := range slices.DeleteFunc(slices.Clone(l), func(x impl.Entry) bool { return x.Old }) {
		tags = append(tags, x.Tag)
	}
	return tags
}

func checkRegistry(t *testing.T, name string, l []impl.Entry, want bool) {
	t.Helper()
	if got := impl.IsRegistry(l); got != want {
		t.Errorf("%s: IsRegistry(%.300v) is %v", name, fmt.Sprint(l), got)
	}
}

// checkAssign holds AssignTag against a list, a tag and whether it succeeds.
func checkAssign(t *testing.T, name string, l []impl.Entry, vendor int, want []impl.Entry, tag int, done bool) {
	t.Helper()
	got, gotTag, ok := impl.AssignTag(l, vendor)
	if !slices.Equal(got, want) || gotTag != tag || ok != done {
		t.Errorf("%s: AssignTag(%.300v, %d) is %.300v, %d, %v, not %.300v, %d, %v",
			name, fmt.Sprint(l), vendor, fmt.Sprint(got), gotTag, ok, fmt.Sprint(want), tag, done)
	}
}

func checkRetire(t *testing.T, name string, l []impl.Entry, tag int, want []impl.Entry, done bool) {
	t.Helper()
	if got, ok := impl.RetireTag(l, tag); !slices.Equal(got, want) || ok != done {
		t.Errorf("%s: RetireTag(%.300v, %d) is %.300v, %v, not %.300v, %v",
			name, fmt.Sprint(l), tag, fmt.Sprint(got), ok, fmt.Sprint(want), done)
	}
}

func checkClash(t *testing.T, name string, l []impl.Entry, tags []int, vendor int, want []int) {
	t.Helper()
	if got := impl.ClashOf(l, tags, vendor); !slices.Equal(got, want) {
		t.Errorf("%s: ClashOf(%.300v, %.300v, %d) is %.300v, not %.300v",
			name, fmt.Sprint(l), fmt.Sprint(tags), vendor, fmt.Sprint(got), fmt.Sprint(want))
	}
}

// checkEntries holds all that the program says of a list, some tags and a vendor
// against what the test works out.
func checkEntries(t *testing.T, name string, l []impl.Entry, tags []int, vendor int) {
	t.Helper()
	checkRegistry(t, name, l, isEntryList(l))
	want, tag, done := assigned(l, vendor)
	checkAssign(t, name, l, vendor, want, tag, done)
	for _, tag := range tags {
		want, done := retired(l, tag)
		checkRetire(t, name, l, tag, want, done)
		if got, want := impl.OwnerOf(l, tag), ownerOf(l, tag); got != want {
			t.Errorf("%s: OwnerOf(%.300v, %d) is %d, not %d", name, fmt.Sprint(l), tag, got, want)
		}
	}
	if got, want := impl.LiveTags(l), liveTags(l); !slices.Equal(got, want) {
		t.Errorf("%s: LiveTags(%.300v) is %v, not %v", name, fmt.Sprint(l), got, want)
	}
	checkClash(t, name, l, tags, vendor, clashesOf(l, tags, vendor))
}

// firstEntries returns entries with the least tags that may be given.
func firstEntries(count int) []impl.Entry {
	l := entriesOf()
	for i, tag := range openTags[:count] {
		l = append(l, entry(tag, i%10))
	}
	return l
}

// allOld returns a copy in which every entry is retired.
func allOld(l []impl.Entry) []impl.Entry {
	l = slices.Clone(l)
	for i := range l {
		l[i].Old = true
	}
	return l
}

// someRegistries returns registries of every length.
func someRegistries() [][]impl.Entry {
	lists := [][]impl.Entry{
		nil, {}, {entry(0, 0)}, {entry(255, 9)}, {entry(9, 3)}, {entry(11, 3)}, {oldEntry(0, 4)}, {oldEntry(40, 0)},
		{entry(0, 1), entry(2, 1)}, {entry(0, 1), oldEntry(1, 1)}, {oldEntry(9, 5), oldEntry(11, 5)}, {entry(3, 9), entry(255, 0)},
		{entry(0, 0), entry(1, 1), entry(3, 3)}, {entry(1, 2), entry(2, 2), oldEntry(5, 2)}, {entry(25, 1), entry(27, 2), entry(249, 3), entry(251, 4)},
	}
	for count := range 13 {
		few := firstEntries(count)
		last := entriesOf()
		for i, tag := range openTags[len(openTags)-count:] {
			last = append(last, impl.Entry{Tag: tag, Vendor: 9 - i%10, Old: i%3 == 0})
		}
		lists = append(lists, few, allOld(few), last)
	}
	return lists
}

// noRegistries returns lists that are none, each by something else.
func noRegistries() [][]impl.Entry {
	full := firstEntries(12)
	swapped := slices.Clone(full)
	swapped[4], swapped[5] = swapped[5], swapped[4]
	twice := slices.Clone(full)
	twice[5] = twice[4]
	lists := [][]impl.Entry{
		{entry(2, 0), entry(1, 0)}, {entry(5, 1), entry(5, 1)}, {entry(5, 1), oldEntry(5, 2)}, {oldEntry(5, 3), entry(5, 2), entry(5, 1)},
		{entry(1, 0), entry(0, 3), entry(1, 2)}, {entry(7, 1), entry(3, 2), entry(7, 3), entry(3, 4)}, {entry(0, -1)}, {entry(0, 10)},
		{entry(-1, 0)}, {entry(256, 0)}, {entry(10, 0)}, {entry(0, 0), entry(26, 1)}, {entry(9, 1), entry(10, 2), entry(11, 3)},
		{entry(math.MinInt, 1), entry(math.MaxInt, 2)}, {entry(math.MaxInt, 2), entry(math.MinInt, 1)}, {entry(1, math.MinInt), entry(2, math.MaxInt)},
		{oldEntry(-5, -5), entry(-5, 5)}, {entry(0, 1), entry(1, 2), oldEntry(300, 3)}, make([]impl.Entry, 2), make([]impl.Entry, 13),
		firstEntries(13), allOld(firstEntries(13)), firstEntries(30), append(slices.Clone(full), entry(255, 9)), append(slices.Clone(full), entry(11, 0)),
		append(slices.Clone(full), entry(-1, 0)), slices.Concat(full, full), swapped, twice,
	}
	slices.Reverse(full)
	return append(lists, full)
}

// tagsAround returns tags about the limits, the reserved tags and the tags of a list.
func tagsAround(l []impl.Entry) []int {
	tags := append(byteLimits(), 8, 9, 10, 11, 12, 13, 25, 26, 27, 42, 249, 250, 251, 266, -6, 10)
	for _, x := range l {
		tags = append(tags, x.Tag-1, x.Tag, x.Tag+1, x.Tag+256)
	}
	return tags
}

// vendorLimits returns numbers about the limits of a vendor, and ints beyond them.
func vendorLimits() []int {
	return append(someNumbers(), 8, 9, 10, 11, 256, 1<<32+9)
}

func TestRegistryLimits(t *testing.T) {
	if got, want := bytesOf(impl.MaxEntries, impl.MaxVendor), bytesOf(12, 9); !slices.Equal(got, want) {
		t.Errorf("the constants are %v, not %v", got, want)
	}
}

func TestIsReserved(t *testing.T) {
	cases := map[int]bool{
		-1: false, 0: false, 9: false, 10: true, 11: false, 25: false, 26: true, 27: false, 42: true, 58: true, 74: true, 160: false,
		170: true, 234: true, 249: false, 250: true, 251: false, 255: false, 256: false, 266: false, -6: false, -10: false, -16: false,
		math.MinInt: false, math.MinInt + 10: false, math.MaxInt: false, math.MaxInt - 5: false, 1<<32 + 10: false,
	}
	for tag, want := range cases {
		if got := impl.IsReserved(tag); got != want {
			t.Errorf("IsReserved(%d) is %v", tag, got)
		}
	}
	count := 0
	for tag := -1000; tag <= 1000; tag++ {
		got := impl.IsReserved(tag)
		if got != slices.Contains(reservedTags(), tag) {
			t.Errorf("IsReserved(%d) is %v", tag, got)
		}
		if got {
			count++
		}
	}
	if count != 16 {
		t.Errorf("%d tags are reserved, not 16", count)
	}
	for i := range 40 {
		for _, tag := range bytesOf(math.MinInt+i, math.MaxInt-i, 1<<32+i, -1<<32-i) {
			if impl.IsReserved(tag) {
				t.Errorf("IsReserved(%d) is true", tag)
			}
		}
	}
}

func TestIsRegistry(t *testing.T) {
	full := firstEntries(12)
	cases := []struct {
		name string
		l    []impl.Entry
		want bool
	}{
		{"nil", nil, true},
		{"empty", entriesOf(), true},
		{"empty before spare capacity", entriesOf(entry(-1, -1), entry(10, 0))[:0], true},
		{"the zero Entry", make([]impl.Entry, 1), true},
		{"one", entriesOf(entry(40, 3)), true},
		{"one that is Old", entriesOf(oldEntry(40, 3)), true},
		{"several", entriesOf(entry(1, 3), oldEntry(2, 3), entry(40, 9)), true},
		{"MaxEntries", full, true},
		{"MaxEntries, all Old", allOld(full), true},
		{"one more than MaxEntries", firstEntries(13), false},
		{"one more than MaxEntries, all Old", allOld(firstEntries(13)), false},
		{"one more than MaxEntries in the spare capacity", firstEntries(13)[:12], true},
		{"MaxEntries and the greatest tag", append(slices.Clone(full), entry(255, 0)), false},
		{"all tags", firstEntries(240), false},

		{"a Vendor of -1", entriesOf(entry(1, -1)), false},
		{"a Vendor of 0", entriesOf(entry(1, 0)), true},
		{"a Vendor of MaxVendor", entriesOf(entry(1, 9)), true},
		{"a Vendor of one more", entriesOf(entry(1, 10)), false},
		{"the least Vendor", entriesOf(entry(1, math.MinInt)), false},
		{"the greatest Vendor", entriesOf(entry(1, math.MaxInt)), false},
		{"a Vendor of -1 that is Old", entriesOf(oldEntry(1, -1)), false},
		{"a Vendor of -1 at the end", entriesOf(entry(0, 0), entry(1, 9), entry(2, -1)), false},
		{"a Vendor of 10 at the front", entriesOf(entry(0, 10), entry(1, 9), entry(2, 0)), false},
		{"a Vendor of 10 between", entriesOf(entry(0, 0), oldEntry(1, 10), entry(2, 0)), false},
		{"the same Vendor everywhere", entriesOf(entry(0, 4), entry(1, 4), entry(2, 4)), true},

		{"a Tag of -1", entriesOf(entry(-1, 0)), false},
		{"a Tag of 0", entriesOf(entry(0, 0)), true},
		{"a Tag of 9", entriesOf(entry(9, 0)), true},
		{"a Tag of 10", entriesOf(entry(10, 0)), false},
		{"a Tag of 11", entriesOf(entry(11, 0)), true},
		{"a Tag of 26", entriesOf(entry(26, 0)), false},
		{"a Tag of 26 that is Old", entriesOf(oldEntry(26, 0)), false},
		{"a Tag of 250", entriesOf(entry(250, 0)), false},
		{"a Tag of 255", entriesOf(entry(255, 0)), true},
		{"a Tag of 256", entriesOf(entry(256, 0)), false},
		{"the least Tag", entriesOf(entry(math.MinInt, 0)), false},
		{"the greatest Tag", entriesOf(entry(math.MaxInt, 0)), false},
		{"a reserved Tag at the end", entriesOf(entry(0, 0), entry(9, 0), entry(10, 0)), false},
		{"a reserved Tag at the front", entriesOf(entry(10, 0), entry(11, 0)), false},
		{"a reserved Tag between", entriesOf(entry(25, 0), entry(26, 0), entry(27, 0)), false},
		{"the Tags about a reserved one", entriesOf(entry(249, 0), entry(251, 0)), true},
		{"a Tag of 256 at the end", entriesOf(entry(0, 0), entry(255, 0), entry(256, 0)), false},
		{"a Tag of -1 at the front", entriesOf(entry(-1, 0), entry(0, 0)), false},

		{"falling order", entriesOf(entry(2, 0), entry(1, 0)), false},
		{"falling order at the end", entriesOf(entry(0, 0), entry(5, 0), entry(4, 0)), false},
		{"falling order at the front", entriesOf(entry(5, 0), entry(4, 0), entry(6, 0)), false},
		{"falling order down to 0", entriesOf(entry(255, 0), entry(0, 0)), false},
		{"the greatest Tag before the least", entriesOf(entry(math.MaxInt, 0), entry(math.MinInt, 0)), false},
		{"two with the same Tag", entriesOf(entry(5, 0), entry(5, 0)), false},
		{"two with the same Tag, one of them Old", entriesOf(oldEntry(5, 0), entry(5, 1)), false},
		{"two with the same Tag at the end", entriesOf(entry(0, 0), entry(5, 0), entry(5, 1)), false},
		{"two with the Tag 0", make([]impl.Entry, 2), false},
		{"two with the Tag 255", entriesOf(entry(255, 0), entry(255, 0)), false},
		{"the same Tag in the spare capacity", entriesOf(entry(5, 0), entry(5, 0))[:1], true},
	}
	for _, c := range cases {
		checkRegistry(t, c.name, c.l, c.want)
		if isEntryList(c.l) != c.want {
			t.Errorf("%s: the test's own answer is %v", c.name, !c.want)
		}
		checkEntries(t, c.name, c.l, tagsAround(c.l[:min(len(c.l), 13)]), 4)
	}
}

func TestRegistryLists(t *testing.T) {
	for _, l := range someRegistries() {
		checkRegistry(t, "a registry", l, true)
		for _, vendor := range vendorLimits() {
			checkEntries(t, "a registry", l, tagsAround(l), vendor)
		}
	}
	for _, l := range noRegistries() {
		checkRegistry(t, "no registry", l, false)
		for _, vendor := range vendorLimits() {
			checkEntries(t, "no registry", l, tagsAround(l), vendor)
		}
	}
}

// Every list of a few entries, so that each kind of fault stands at each place.
func TestEveryShortListOfEntries(t *testing.T) {
	all := entriesOf(
		entry(-1, 0), entry(0, 0), oldEntry(0, 1), entry(1, 9), oldEntry(1, -1), entry(9, 2), oldEntry(9, 2), entry(10, 3),
		entry(11, 10), oldEntry(11, 0), entry(26, 0), entry(250, 9), entry(255, 9), oldEntry(255, 0), entry(256, 0),
	)
	numbers := []int{}
	for i := range all {
		numbers = append(numbers, i)
	}
	registries := 0
	eachList(numbers, 3, func(b []int) {
		l := entriesOf()
		for _, i := range b {
			l = append(l, all[i])
		}
		if isEntryList(l) {
			registries++
		}
		checkEntries(t, "a short list", l, bytesOf(-1, 0, 1, 2, 9, 10, 11, 26, 250, 255, 256, 0), len(b)*3)
	})
	// 8 of the entries are right, and 25 pairs and 38 triples of them ascend.
	if registries != 1+8+25+38 {
		t.Errorf("%d lists are registries", registries)
	}
}

// Every choice among the first tags, so that each gap is there, and more entries than
// MaxEntries too.
func TestEveryGap(t *testing.T) {
	given := 0
	for mask := range 1 << 14 {
		l := entriesOf()
		for i, tag := range openTags[:14] {
			if mask>>i&1 == 1 {
				l = append(l, impl.Entry{Tag: tag, Vendor: (mask + i) % 10, Old: mask%7 == i%7})
			}
		}
		checkEntries(t, "a choice", l, bytesOf(mask%16, 9, 10, 11), mask%11)
		out, tag, ok := impl.AssignTag(l, 9)
		if ok != (len(l) < 12) {
			t.Errorf("AssignTag(%v, 9) is %v", l, ok)
		}
		if !ok {
			continue
		}
		given++
		if impl.OwnerOf(l, tag) != -1 || impl.OwnerOf(out, tag) != 9 || impl.IsReserved(tag) || !impl.IsRegistry(out) {
			t.Errorf("AssignTag(%v, 9) is %v, %d", l, out, tag)
		}
	}
	if given != 1<<14-1-14-91 {
		t.Errorf("%d tags are given", given)
	}
}

func TestAssignTag(t *testing.T) {
	cases := []struct {
		name   string
		l      []impl.Entry
		vendor int
		want   []impl.Entry
		tag    int
	}{
		{"nil", nil, 3, entriesOf(entry(0, 3)), 0},
		{"empty", entriesOf(), 0, entriesOf(entry(0, 0)), 0},
		{"empty before spare capacity", entriesOf(entry(0, 1))[:0], 9, entriesOf(entry(0, 9)), 0},
		{"one", entriesOf(entry(0, 1)), 3, entriesOf(entry(0, 1), entry(1, 3)), 1},
		{"the same vendor again", entriesOf(entry(0, 3)), 3, entriesOf(entry(0, 3), entry(1, 3)), 1},
		{"one that is Old", entriesOf(oldEntry(0, 3)), 3, entriesOf(oldEntry(0, 3), entry(1, 3)), 1},
		{"a gap at the front", entriesOf(entry(1, 1)), 3, entriesOf(entry(0, 3), entry(1, 1)), 0},
		{"a wide gap at the front", entriesOf(entry(255, 1)), 3, entriesOf(entry(0, 3), entry(255, 1)), 0},
		{"a gap before the tag behind a reserved one", entriesOf(entry(11, 1)), 3, entriesOf(entry(0, 3), entry(11, 1)), 0},
		{"a gap between", entriesOf(entry(0, 1), entry(2, 2)), 3, entriesOf(entry(0, 1), entry(1, 3), entry(2, 2)), 1},
		{"two gaps", entriesOf(entry(0, 1), entry(2, 2), entry(4, 2)), 3, entriesOf(entry(0, 1), entry(1, 3), entry(2, 2), entry(4, 2)), 1},
		{"a gap between Old ones", entriesOf(oldEntry(0, 1), oldEntry(2, 2)), 3, entriesOf(oldEntry(0, 1), entry(1, 3), oldEntry(2, 2)), 1},
		{"a gap at the front of Old ones", entriesOf(oldEntry(3, 1)), 3, entriesOf(entry(0, 3), oldEntry(3, 1)), 0},
		{"a gap behind", entriesOf(entry(0, 1), entry(1, 2), entry(2, 2)), 3, entriesOf(entry(0, 1), entry(1, 2), entry(2, 2), entry(3, 3)), 3},
		{"a gap in front of a reserved tag", append(firstEntries(9), entry(11, 1)), 3, append(firstEntries(9), entry(9, 3), entry(11, 1)), 9},
		{"a gap behind a reserved tag", append(firstEntries(10), entry(12, 1)), 3, append(firstEntries(10), entry(11, 3), entry(12, 1)), 11},
		{"no gap but a reserved tag", firstEntries(11), 3, append(firstEntries(11), entry(12, 3)), 12},
		{"a reserved tag behind", firstEntries(10), 3, append(firstEntries(10), entry(11, 3)), 11},
		{"one less than MaxEntries, with a gap", firstEntries(12)[1:], 3, slices.Concat(entriesOf(entry(0, 3)), firstEntries(12)[1:]), 0},
		{"one less than MaxEntries, all Old", allOld(firstEntries(11)), 0, append(allOld(firstEntries(11)), entry(12, 0)), 12},
		{"the greatest tags", entriesOf(entry(253, 1), entry(254, 1), entry(255, 1)), 3, entriesOf(entry(0, 3), entry(253, 1), entry(254, 1), entry(255, 1)), 0},
	}
	for _, c := range cases {
		checkAssign(t, c.name, c.l, c.vendor, c.want, c.tag, true)
		checkRegistry(t, c.name, c.want, true)
		for _, vendor := range bytesOf(-1, 10, math.MinInt, math.MaxInt, 1<<32) {
			checkAssign(t, c.name, c.l, vendor, c.l, -1, false)
		}
	}
}

// A registry with MaxEntries entries is full, whatever tags are free or Old.
func TestFullRegistry(t *testing.T) {
	full := firstEntries(12)
	apart := entriesOf()
	for i := range 12 {
		apart = append(apart, entry(openTags[20*i+19], 9))
	}
	oneOld := slices.Clone(full)
	oneOld[0].Old = true
	for _, l := range [][]impl.Entry{full, allOld(full), oneOld, apart, allOld(apart), firstEntries(13)[1:]} {
		checkRegistry(t, "full", l, true)
		for _, vendor := range vendorLimits() {
			checkAssign(t, "full", l, vendor, l, -1, false)
		}
		for _, x := range l {
			want := slices.Clone(l)
			_, place := firstEntry(l, x.Tag)
			want[place].Old = true
			checkRetire(t, "full", l, x.Tag, want, !x.Old)
			checkAssign(t, "full and one retired", want, 3, want, -1, false)
		}
		checkEntries(t, "full", l, tagsAround(l), 9)
		checkAssign(t, "one entry less", l[1:], 5, slices.Concat(entriesOf(entry(0, 5)), l[1:]), 0, true)
		more := append(slices.Clone(l), entry(255, 1))
		checkAssign(t, "one entry more", more, 1, more, -1, false)
		checkRetire(t, "one entry more", more, 255, more, false)
	}
}

// chance returns the same numbers for the same seed.
func chance(seed int) *rand.Rand {
	return rand.New(rand.NewPCG(uint64(seed), 10))
}

// history gives and retires tags by chance. It reports each registry that results, with
// the tag that was given, or -1.
func history(start []impl.Entry, seed int, use func(l []impl.Entry, given int)) {
	l, pick := start, chance(seed)
	for range 60 {
		given := -1
		if pick.IntN(3) == 0 && len(l) > 0 {
			l, _ = impl.RetireTag(l, l[pick.IntN(len(l))].Tag)
		} else {
			l, given, _ = impl.AssignTag(l, pick.IntN(10))
		}
		use(l, given)
	}
}

func TestNoTagIsGivenTwice(t *testing.T) {
	for _, start := range [][]impl.Entry{nil, {oldEntry(0, 1)}, {entry(1, 1), entry(9, 2)}, {oldEntry(11, 5), entry(12, 5), entry(255, 0)}, firstEntries(11)[3:]} {
		for seed := range 60 {
			owners := map[int]int{}
			for _, x := range start {
				owners[x.Tag] = x.Vendor
			}
			old := 0
			history(start, seed, func(l []impl.Entry, given int) {
				if _, met := owners[given]; met || impl.IsReserved(given) {
					t.Errorf("seed %d: the tag %d is given again: %v", seed, given, l)
				}
				if given >= 0 {
					owners[given] = impl.OwnerOf(l, given)
				}
				if !impl.IsRegistry(l) || !isEntryList(l) || len(l) != len(owners) {
					t.Errorf("seed %d: no registry of %d: %v", seed, len(owners), l)
				}
				// Also a tag that is retired stays with its vendor.
				for tag, owner := range owners {
					if got := impl.OwnerOf(l, tag); got != owner || got < 0 {
						t.Errorf("seed %d: the owner of %d is %d, not %d: %v", seed, tag, got, owner, l)
					}
				}
				old = len(l) - len(impl.LiveTags(l))
			})
			if len(owners) != 12 || old < 3 {
				t.Errorf("seed %d: %d tags are there, %d of them Old", seed, len(owners), old)
			}
		}
	}
}

// Tags that are retired at once are no more given again than others.
func TestRetiredTagsAreNotGivenAgain(t *testing.T) {
	l := []impl.Entry{}
	for i, want := range openTags[:12] {
		var tag int
		var given, done bool
		l, tag, given = impl.AssignTag(l, 9-i%10)
		if !given || tag != want {
			t.Fatalf("the tag %d is %d, %v", i, tag, given)
		}
		l, done = impl.RetireTag(l, tag)
		if !done || impl.OwnerOf(l, tag) != 9-i%10 || len(impl.LiveTags(l)) != 0 {
			t.Fatalf("the tag %d is not retired: %v", tag, l)
		}
	}
	checkRegistry(t, "all retired", l, true)
	checkAssign(t, "all retired", l, 0, l, -1, false)
}

// Registries with tags from everywhere.
func TestManyRegistries(t *testing.T) {
	for seed := range 200 {
		l, pick := entriesOf(), chance(seed)
		// Of few tags nearly all are taken, of many only a few.
		tags := openTags[:13+pick.IntN(len(openTags)-12)]
		for _, i := range pick.Perm(len(tags))[:pick.IntN(14)] {
			l = append(l, impl.Entry{Tag: tags[i], Vendor: pick.IntN(10), Old: pick.IntN(2) == 1})
		}
		slices.SortFunc(l, func(a, b impl.Entry) int { return a.Tag - b.Tag })
		checkRegistry(t, "a registry", l, len(l) < 13)
		checkEntries(t, "a registry", l, tagsAround(l), seed%12-1)
		// One thing changed makes it another registry or none.
		for i, x := range l {
			for _, n := range tagsAround(l[i : i+1]) {
				changed := slices.Clone(l)
				changed[i].Tag = n
				checkEntries(t, "another Tag", changed, bytesOf(n, x.Tag), 3)
				changed[i] = impl.Entry{Tag: x.Tag, Vendor: n, Old: x.Old}
				checkEntries(t, "another Vendor", changed, bytesOf(x.Tag), n)
			}
		}
	}
}

func TestRetireTag(t *testing.T) {
	l := entriesOf(entry(0, 3), oldEntry(1, 4), entry(9, 3), entry(11, 0), oldEntry(12, 9), entry(255, 9))
	cases := []struct {
		name string
		l    []impl.Entry
		tag  int
		want []impl.Entry
		done bool
	}{
		{"the first one", l, 0, slices.Concat(entriesOf(oldEntry(0, 3)), l[1:]), true},
		{"one between", l, 9, slices.Concat(l[:2], entriesOf(oldEntry(9, 3)), l[3:]), true},
		{"one behind a reserved tag", l, 11, slices.Concat(l[:3], entriesOf(oldEntry(11, 0)), l[4:]), true},
		{"the last one", l, 255, slices.Concat(l[:5], entriesOf(oldEntry(255, 9))), true},
		{"the only one", entriesOf(entry(40, 1)), 40, entriesOf(oldEntry(40, 1)), true},
		{"one of MaxEntries", firstEntries(12), 12, append(firstEntries(11), oldEntry(12, 1)), true},
		{"one that is Old", l, 1, l, false},
		{"another one that is Old", l, 12, l, false},
		{"the only one, which is Old", entriesOf(oldEntry(40, 1)), 40, entriesOf(oldEntry(40, 1)), false},
		{"one that is not there, between", l, 2, l, false},
		{"one that is not there, at the front", l[1:], 0, l[1:], false},
		{"one that is not there, behind", l, 254, l, false},
		{"one that is there modulo 256", l, 256, l, false},
		{"a tag of -1", l, -1, l, false},
		{"a reserved tag", l, 10, l, false},
		{"another reserved tag", l, 250, l, false},
		{"the least tag", l, math.MinInt, l, false},
		{"the greatest tag", l, math.MaxInt, l, false},
		{"a tag in the spare capacity", l[:5], 255, l[:5], false},
		{"a vendor", l, 4, l, false},
		{"nil", nil, 0, nil, false},
		{"empty", entriesOf(), 0, nil, false},
		{"empty before spare capacity", l[:0], 0, nil, false},
		{"no registry: falling order", entriesOf(entry(2, 0), entry(1, 0)), 1, entriesOf(entry(2, 0), entry(1, 0)), false},
		{"no registry: the same Tag twice", entriesOf(entry(2, 0), entry(2, 0)), 2, entriesOf(entry(2, 0), entry(2, 0)), false},
		{"no registry: a reserved Tag", entriesOf(entry(10, 0)), 10, entriesOf(entry(10, 0)), false},
		{"no registry: a reserved Tag elsewhere", entriesOf(entry(9, 0), entry(10, 0)), 9, entriesOf(entry(9, 0), entry(10, 0)), false},
		{"no registry: a Tag of -1", entriesOf(entry(-1, 0)), -1, entriesOf(entry(-1, 0)), false},
		{"no registry: a Tag of 256", entriesOf(entry(256, 0)), 256, entriesOf(entry(256, 0)), false},
		{"no registry: the least Tag", entriesOf(entry(math.MinInt, 0)), math.MinInt, entriesOf(entry(math.MinInt, 0)), false},
		{"no registry: a Vendor of -1", entriesOf(entry(1, -1)), 1, entriesOf(entry(1, -1)), false},
		{"no registry: a Vendor of 10", entriesOf(entry(1, 1), entry(2, 10)), 1, entriesOf(entry(1, 1), entry(2, 10)), false},
		{"no registry: one more than MaxEntries", firstEntries(13), 0, firstEntries(13), false},
	}
	for _, c := range cases {
		checkRetire(t, c.name, c.l, c.tag, c.want, c.done)
		// What was retired once is not retired again.
		again, ok := impl.RetireTag(c.want, c.tag)
		if ok || !slices.Equal(again, c.want) {
			t.Errorf("%s: again it is %v, %v", c.name, again, ok)
		}
	}
}

func TestOwnerOf(t *testing.T) {
	l := entriesOf(entry(0, 3), oldEntry(1, 4), entry(9, 3), entry(11, 0), entry(255, 9))
	wrong := entriesOf(entry(7, 5), entry(3, 2), oldEntry(7, 6), entry(3, 1), entry(256, -7), entry(10, 8), entry(7, 4), entry(-1, 20), entry(0, -1))
	cases := []struct {
		name      string
		l         []impl.Entry
		tag, want int
	}{
		{"the first one", l, 0, 3},
		{"one that is Old", l, 1, 4},
		{"one between", l, 9, 3},
		{"a Vendor of 0", l, 11, 0},
		{"the last one", l, 255, 9},
		{"one that is not there", l, 2, -1},
		{"a reserved tag", l, 10, -1},
		{"a tag of -1", l, -1, -1},
		{"one that is there modulo 256", l, 256, -1},
		{"one in the spare capacity", l[:4], 255, -1},
		{"the least tag", l, math.MinInt, -1},
		{"the greatest tag", l, math.MaxInt, -1},
		{"nil", nil, 0, -1},
		{"empty", entriesOf(), 0, -1},
		{"the zero Entry", make([]impl.Entry, 1), 0, 0},
		{"no registry: a Tag three times", wrong, 7, 5},
		{"no registry: a Tag twice", wrong, 3, 2},
		{"no registry: a Tag of 256 with a negative Vendor", wrong, 256, -7},
		{"no registry: a reserved Tag", wrong, 10, 8},
		{"no registry: a Tag of -1", wrong, -1, 20},
		{"no registry: the last one", wrong, 0, -1},
		{"no registry: one that is not there", wrong, 4, -1},
		{"no registry: one of the same Tag Old at the front", entriesOf(oldEntry(5, 1), entry(5, 2)), 5, 1},
		{"no registry: falling order", entriesOf(entry(3, 3), entry(2, 2), entry(1, 1)), 3, 3},
		{"no registry: falling order, the last one", entriesOf(entry(3, 3), entry(2, 2), entry(1, 1)), 1, 1},
		{"no registry: the least ints", entriesOf(entry(0, 1), entry(math.MaxInt, 2), entry(math.MinInt, math.MinInt)), math.MinInt, math.MinInt},
		{"no registry: the greatest ints", entriesOf(entry(math.MaxInt, math.MaxInt), entry(math.MinInt, 1)), math.MaxInt, math.MaxInt},
		{"no registry: one more than MaxEntries", firstEntries(13), 13, 2},
	}
	for _, c := range cases {
		if got := impl.OwnerOf(c.l, c.tag); got != c.want {
			t.Errorf("%s: OwnerOf(%v, %d) is %d, not %d", c.name, c.l, c.tag, got, c.want)
		}
	}
}

func TestLiveTags(t *testing.T) {
	l := entriesOf(entry(0, 3), oldEntry(1, 4), entry(9, 3), oldEntry(11, 0), entry(255, 9))
	cases := []struct {
		name string
		l    []impl.Entry
		want []int
	}{
		{"nil", nil, nil},
		{"empty", entriesOf(), nil},
		{"entries in the spare capacity", l[:0], nil},
		{"some Old", l, bytesOf(0, 9, 255)},
		{"none Old", firstEntries(12), bytesOf(0, 1, 2, 3, 4, 5, 6, 7, 8, 9, 11, 12)},
		{"all Old", allOld(firstEntries(12)), nil},
		{"the first one Old", entriesOf(oldEntry(3, 1), entry(4, 1)), bytesOf(4)},
		{"the last one Old", entriesOf(entry(3, 1), oldEntry(4, 1)), bytesOf(3)},
		{"no registry: another order", entriesOf(entry(5, 1), oldEntry(4, 1), entry(3, 1)), bytesOf(5, 3)},
		{"no registry: the same Tag, Old and not", entriesOf(entry(5, 1), oldEntry(5, 1), entry(5, 2)), bytesOf(5, 5)},
		{"no registry: Tags that are none", entriesOf(entry(-1, 0), entry(10, 0), oldEntry(26, 0), entry(256, 0)), bytesOf(-1, 10, 256)},
		{"no registry: the least and the greatest int", entriesOf(entry(math.MaxInt, 0), entry(math.MinInt, -1)), bytesOf(math.MaxInt, math.MinInt)},
		{"no registry: many", make([]impl.Entry, 40), make([]int, 40)},
	}
	for _, c := range cases {
		if got := impl.LiveTags(c.l); !slices.Equal(got, c.want) {
			t.Errorf("%s: LiveTags(%v) is %v, not %v", c.name, c.l, got, c.want)
		}
	}
}

func TestClashOf(t *testing.T) {
	l := entriesOf(entry(0, 3), oldEntry(1, 4), entry(9, 3), oldEntry(11, 3), entry(12, 0), entry(255, 9))
	wrong := entriesOf(entry(7, 5), entry(3, -1), entry(7, 3), entry(10, 3), entry(3, 4), entry(-6, 2), entry(256, math.MaxInt), entry(2, math.MinInt))
	cases := []struct {
		name   string
		l      []impl.Entry
		tags   []int
		vendor int
		want   []int
	}{
		{"nil tags", l, nil, 3, nil},
		{"no tags", l, []int{}, 3, nil},
		{"tags in the spare capacity", l, bytesOf(0, 1)[:0], 5, nil},
		{"tags of the vendor", l, bytesOf(0, 9, 11), 3, nil},
		{"a tag of another vendor", l, bytesOf(255), 3, bytesOf(255)},
		{"a tag of the Vendor 0", l, bytesOf(12), 3, bytesOf(12)},
		{"the vendor 0", l, bytesOf(0, 12), 0, bytesOf(0)},
		{"an Old tag of another vendor", l, bytesOf(1), 3, bytesOf(1)},
		{"an Old tag of the vendor", l, bytesOf(1), 4, nil},
		{"tags of nobody", l, bytesOf(2, 8, 13, 254), 3, nil},
		{"a reserved tag", l, bytesOf(10), 3, bytesOf(10)},
		{"all reserved tags", l, reservedTags(), 3, reservedTags()},
		{"repeated tags", l, bytesOf(255, 0, 255, 10, 5, 10, 255, 0), 3, bytesOf(255, 255, 10, 10, 255)},
		{"the order of the tags", l, bytesOf(255, 26, 12, 2, 1, 10, 0), 5, bytesOf(255, 26, 12, 1, 10, 0)},
		{"tags that are none", l, bytesOf(-1, 256, 266, -6, 512), 3, nil},
		{"the least and the greatest tag", l, bytesOf(math.MinInt, math.MaxInt, math.MaxInt-5), 3, nil},
		{"a vendor of -1", l, bytesOf(0, 2, 10, 255), -1, bytesOf(0, 10, 255)},
		{"a vendor of 10", l, bytesOf(0, 2, 10, 255), 10, bytesOf(0, 10, 255)},
		{"the least vendor", l, bytesOf(0, 2, 10, 255), math.MinInt, bytesOf(0, 10, 255)},
		{"the greatest vendor", l, bytesOf(0, 2, 10, 255), math.MaxInt, bytesOf(0, 10, 255)},
		{"nil", nil, bytesOf(0, 10, 26, 11), 3, bytesOf(10, 26)},
		{"empty", entriesOf(), bytesOf(0, 10, 26, 11), 0, bytesOf(10, 26)},
		{"entries in the spare capacity", l[:1], bytesOf(0, 1, 255), 3, nil},
		{"no registry: the first one of the vendor", wrong, bytesOf(7), 5, nil},
		{"no registry: the second one of the vendor", wrong, bytesOf(7), 3, bytesOf(7)},
		{"no registry: a first Vendor of -1", wrong, bytesOf(3), 4, nil},
		{"no registry: a first Vendor of -1 and another one", wrong, bytesOf(3), 5, nil},
		{"no registry: a reserved tag of the vendor", wrong, bytesOf(10), 3, bytesOf(10)},
		{"no registry: tags that are none", wrong, bytesOf(256, -6, 2), 7, bytesOf(256, -6)},
		{"no registry: tags that are none, of the vendor", wrong, bytesOf(256, -6, 2), math.MaxInt, bytesOf(-6)},
		{"no registry: the least Vendor", wrong, bytesOf(2), math.MinInt, nil},
		{"no registry: one more than MaxEntries", firstEntries(13), bytesOf(13, 12, 11), 1, bytesOf(13, 11)},
	}
	for _, c := range cases {
		checkClash(t, c.name, c.l, c.tags, c.vendor, c.want)
		if got := clashesOf(c.l, c.tags, c.vendor); !slices.Equal(got, c.want) {
			t.Errorf("%s: the test's own answer is %v", c.name, got)
		}
	}
}

func TestRegistryWithAnyIntEverywhere(t *testing.T) {
	for _, tag := range tagsAround(nil) {
		for _, vendor := range vendorLimits() {
			for count := range 15 {
				l := slices.Repeat(entriesOf(entry(tag, vendor)), count)
				checkEntries(t, "entries of two numbers", l, bytesOf(tag, vendor), vendor)
			}
			l := entriesOf(entry(3, 3), entry(tag, vendor), oldEntry(vendor, tag))
			checkEntries(t, "any entries", l, bytesOf(tag, vendor, 3), tag)
			checkEntries(t, "any vendor", l, bytesOf(tag, vendor, 3), vendor)
		}
	}
}

func TestManyEntries(t *testing.T) {
	const many = 100000
	same := slices.Repeat(entriesOf(entry(1, 7)), many)
	same[0].Vendor = 8
	var rising, falling []impl.Entry
	var tags []int
	for i := range many {
		rising = append(rising, entry(i, i))
		falling = append(falling, entry(many-i, i))
		tags = append(tags, many/2+i)
	}
	for _, l := range [][]impl.Entry{same, rising, falling} {
		checkRegistry(t, "many", l, false)
		checkAssign(t, "many", l, 3, l, -1, false)
		checkRetire(t, "many", l, 1, l, false)
		if got := impl.LiveTags(l); len(got) != many || got[many-1] != l[many-1].Tag {
			t.Errorf("LiveTags of many gives %d", len(got))
		}
	}
	if a, b, c := impl.OwnerOf(same, 1), impl.OwnerOf(rising, many-1), impl.OwnerOf(falling, 1); a != 8 || b != many-1 || c != many-1 {
		t.Errorf("the owners are %d, %d, %d", a, b, c)
	}
	checkClash(t, "many", same, tags, 8, nil)
	checkClash(t, "many", rising, tags, 70000, slices.Concat(tags[:20000], tags[20001:50000]))
	checkClash(t, "many", falling, tags, 40000, slices.Concat(tags[:10000], tags[10001:50001]))
}

// markedEntries returns a copy of a list with marks in its spare capacity.
func markedEntries(l []impl.Entry) []impl.Entry {
	return append(slices.Clone(l), slices.Repeat(entriesOf(oldEntry(78, 79)), 8)...)[:len(l)]
}

func TestRegistryKeepsArguments(t *testing.T) {
	for _, l := range append(someRegistries(), noRegistries()...) {
		l, tags := markedEntries(l), markedBytes(tagsAround(l))
		before, tagsBefore := slices.Clone(whole(l)), slices.Clone(whole(tags))
		impl.IsRegistry(l)
		impl.LiveTags(l)
		for _, vendor := range vendorLimits() {
			impl.AssignTag(l, vendor)
			impl.ClashOf(l, tags, vendor)
		}
		for _, tag := range tags {
			impl.OwnerOf(l, tag)
			impl.RetireTag(l, tag)
		}
		if !slices.Equal(whole(l), before) || !slices.Equal(whole(tags), tagsBefore) {
			t.Errorf("the arguments are changed to %v, %v", whole(l), whole(tags))
		}
	}
}

func TestRegistrySharesNoMemory(t *testing.T) {
	for _, l := range append(someRegistries(), noRegistries()...) {
		l, tags := markedEntries(l), markedBytes(bytesOf(10, 254))
		for _, x := range l[:min(len(l), 3)] {
			tags = append(tags, x.Tag)
		}
		lists, numbers := [][]impl.Entry{whole(l)}, [][]int{whole(tags)}
		for range 2 {
			for _, vendor := range bytesOf(3, -1) {
				out, _, _ := impl.AssignTag(l, vendor)
				lists = append(lists, whole(out))
			}
			for _, tag := range tags {
				out, _ := impl.RetireTag(l, tag)
				lists = append(lists, whole(out))
			}
			numbers = append(numbers, whole(impl.LiveTags(l)), whole(impl.ClashOf(l, tags, 3)), whole(impl.ClashOf(l, nil, 3)))
		}
		checkAllApart(t, fmt.Sprint(l), lists, func(x *impl.Entry) { x.Tag += 1000 })
		checkApart(t, fmt.Sprint(l), numbers)
	}
}

// Where the answer is false, the copy is the caller's own too.
func TestCopiesOfRegistries(t *testing.T) {
	for _, l := range append(noRegistries(), nil, entriesOf(), firstEntries(12), allOld(firstEntries(12))) {
		l := markedEntries(l)
		before := slices.Clone(whole(l))
		vendor := -1
		if len(l) > 0 {
			vendor = 3
		}
		for range 2 {
			assignedCopy, tag, given := impl.AssignTag(l, vendor)
			retiredCopy, done := impl.RetireTag(l, 10)
			if given || done || tag != -1 || !slices.Equal(assignedCopy, l) || !slices.Equal(retiredCopy, l) {
				t.Errorf("of %v, the copies are %v, %v", l, assignedCopy, retiredCopy)
			}
			for _, out := range [][]impl.Entry{whole(assignedCopy), whole(retiredCopy)} {
				for i := range out {
					out[i] = oldEntry(-7, -7)
				}
			}
		}
		if !slices.Equal(whole(l), before) {
			t.Errorf("a copy writes into the argument: %v", whole(l))
		}
	}
}
