package tests

import (
	"fmt"
	"math"
	"slices"
	"testing"

	"loop.example/g03000/impl"
)

// Promise 7: made messages stay within the grammar (chapter 7).

// pickOf follows the document with the test's own hash. A Mod by what it does not
// divide by is 0.
func pickOf(seed int, place int, n int) int {
	if n < 1 || n > impl.MaxValue {
		return 0
	}
	return hashOf(seed, place) % n
}

// madeOf makes a message by another way than the program's: it picks for every field,
// and keeps what the numbers so far ask for.
func madeOf(l []impl.Field, seed int) []impl.Value {
	var m []impl.Value
	numbers := map[int]int{-1: 0}
	for i, x := range l {
		v := num(pickOf(seed, 16*i, x.Max+1))
		if x.Kind != 1 {
			v = items([]int{
				pickOf(seed, 16*i+1, 100), pickOf(seed, 16*i+2, 100), pickOf(seed, 16*i+3, 100),
				pickOf(seed, 16*i+4, 100), pickOf(seed, 16*i+5, 100),
			}[:v.Num]...)
		}
		if guard, met := numbers[x.When]; !met || guard != x.Is {
			v = impl.Value{}
		} else if x.Kind == 1 {
			numbers[i] = v.Num
		}
		m = append(m, v)
	}
	return m
}

// someSeeds returns seeds in a row, and ints that are far from them.
func someSeeds() []int {
	seeds := append(someValues(), someNumbers()...)
	for seed := range 60 {
		seeds = append(seeds, seed)
	}
	return seeds
}

func TestPickOf(t *testing.T) {
	cases := []struct {
		seed, place, n, want int
	}{
		{5, 0, 3, 2},
		{5, 1, 256, 169},
		{1, 2, 2, 0},
		{1, 2, 1, 0},
		{1, 2, 0, 0},
		{1, 2, -1, 0},
		{1, 2, -1000, 0},
		{1, 2, math.MinInt, 0},
		{1, 2, 1 << 39, 668760222},
		{0, 0, impl.Modulus - 1, 667760217},
		{0, 0, impl.Modulus, 667760217},
		{0, 0, impl.MaxValue, 667760217},
		// Mod has no remainder by a greater number.
		{0, 0, impl.MaxValue + 1, 0},
		{0, 0, 1 << 40, 0},
		{0, 0, math.MaxInt, 0},
		{7, 3, 1 << 31, 674760241},
		// The seed comes before the place.
		{3, 4, 1000000, 760230},
		{4, 3, 1000000, 760232},
		{-1, 0, 100, 14},
		{0, -1, 100, 16},
		{-5, -7, 1000, 195},
		{math.MinInt, math.MaxInt, 100, 12},
		{math.MaxInt, math.MinInt, 100, 18},
		{math.MinInt, math.MinInt, 1000000, 760209},
		{math.MaxInt, math.MaxInt, 1000000, 760221},
		{impl.Modulus, 0, 1000000, 760217},
		{0, impl.Modulus, 1000000, 760217},
		{1<<32 + 3, 4, 1000000, 760236},
	}
	for _, c := range cases {
		if got := impl.PickOf(c.seed, c.place, c.n); got != c.want {
			t.Errorf("PickOf(%d, %d, %d) is %d, not %d", c.seed, c.place, c.n, got, c.want)
		}
	}
}

func TestPickOfOfManyNumbers(t *testing.T) {
	limits := append(someNumbers(), 16, 255, 256, impl.Modulus, impl.MaxValue-1, impl.MaxValue, impl.MaxValue+1)
	for _, seed := range someValues() {
		for _, place := range append(someNumbers(), 16, 32, 80, 85) {
			for _, n := range limits {
				got := impl.PickOf(seed, place, n)
				if got != pickOf(seed, place, n) || got < 0 || n < 1 && got != 0 || n >= 1 && got >= n {
					t.Fatalf("PickOf(%d, %d, %d) is %d, not %d", seed, place, n, got, pickOf(seed, place, n))
				}
			}
		}
	}
}

// checkMade holds what the program makes of a seed against a message and its bytes, or
// against nothing if m is nil.
func checkMade(t *testing.T, name string, l []impl.Field, seed int, m []impl.Value) {
	t.Helper()
	made := impl.MakeMessage(l, seed)
	if fmt.Sprint(made) != fmt.Sprint(m) {
		t.Errorf("%s: MakeMessage(%v, %d) is %v, not %v", name, l, seed, made, m)
	}
	var b []int
	if m != nil {
		b = written(l, m)
	}
	got := impl.MakeBytes(l, seed)
	if !slices.Equal(got, b) {
		t.Errorf("%s: MakeBytes(%v, %d) is %v, not %v", name, l, seed, got, b)
	}
	if impl.FitsFormat(l, made) != (m != nil) {
		t.Errorf("%s: FitsFormat(%v, %v) is %v", name, l, made, m == nil)
	}
	read, ok := impl.DecodeMessage(l, got)
	if ok != (m != nil) || !impl.EqualMessages(read, made) {
		t.Errorf("%s: DecodeMessage(%v, %v) is %v, %v, not %v", name, l, got, read, ok, made)
	}
}

func TestMakeMessage(t *testing.T) {
	l := guarded()
	hidden := fieldsOf(aNum(3), when(aNum(9), 0, 1), when(aList(2), 0, 2), aNum(5))
	six := fieldsOf(aNum(1), aText(5), aList(5), when(aText(2), 0, 0), when(aList(2), 0, 1), aNum(99))
	cases := []struct {
		name string
		l    []impl.Field
		seed int
		m    []impl.Value
	}{
		{"a text that is there", l, 15, valuesOf(num(2), items(79, 80), items(95, 96))},
		{"a text of length 0 that is there", l, 5, valuesOf(num(2), num(0), items(65))},
		{"a text and a list of length 0", l, 25, valuesOf(num(2), num(0), num(0))},
		{"a text that is not there", l, 0, valuesOf(num(7), num(0), items(50, 51))},
		{"a number of 0", l, 1, valuesOf(num(0), num(0), num(0))},
		{"a number of Max", l, 4, valuesOf(num(9), num(0), num(0))},
		{"a seed of -1", l, -1, valuesOf(num(4), num(0), items(47))},
		{"the least seed", l, math.MinInt, valuesOf(num(1), num(0), num(0))},
		{"the greatest seed", l, math.MaxInt, valuesOf(num(0), num(0), num(0))},
		{"a seed of 2 to the power of 32", l, 1 << 32, valuesOf(num(3), num(0), items(56))},
		{"a seed of MaxValue", l, impl.MaxValue, valuesOf(num(9), num(0), items(2))},
		{"a number of 0 of two", fieldsOf(aNum(1)), 1, valuesOf(num(0))},
		{"a number of 1 of two", fieldsOf(aNum(1)), 0, valuesOf(num(1))},
		{"a number of a hundred", fieldsOf(aNum(99)), math.MaxInt, valuesOf(num(20))},
		{"a text of length 0 of two", fieldsOf(aText(1)), 3, valuesOf(num(0))},
		{"a text of length 1 of two", fieldsOf(aText(1)), 4, valuesOf(items(30))},
		{"a text of length 0 of six", fieldsOf(aText(5)), 3, valuesOf(num(0))},
		{"a text of length 1 of six", fieldsOf(aText(5)), math.MinInt, valuesOf(items(12))},
		{"a text of MaxLen", fieldsOf(aText(5)), 8, valuesOf(items(42, 43, 44, 45, 46))},
		{"a list of length 0 of six", fieldsOf(aList(5)), 3, valuesOf(num(0))},
		{"a list of length 4 of six", fieldsOf(aList(5)), math.MaxInt, valuesOf(items(21, 22, 23, 24))},
		{"a list of MaxLen", fieldsOf(aList(5)), 2, valuesOf(items(24, 25, 26, 27, 28))},
		{"one of two that are not there together", hidden, 4, valuesOf(num(1), num(5), num(0), num(1))},
		{"the other of two", hidden, 3, valuesOf(num(2), num(0), items(59, 60), num(0))},
		{"the other of two, of length 0", hidden, 7, valuesOf(num(2), num(0), num(0), num(4))},
		{"none of two", hidden, 2, valuesOf(num(3), num(0), num(0), num(5))},
		{"six fields", six, 0, valuesOf(num(1), items(34), items(50, 51, 52, 53, 54), num(0), items(82), num(97))},
		{"six other fields", six, 11, valuesOf(num(0), num(0), items(83, 84, 85, 86), items(99, 0), num(0), num(30))},
		{"six fields of the least seed", six, math.MinInt, valuesOf(num(1), items(28, 29, 30, 31, 32), items(44, 45, 46), num(0), items(76, 77), num(91))},
		{"nil", nil, 5, nil},
		{"no fields", []impl.Field{}, 5, nil},
		{"fields in the spare capacity", l[:0], 5, nil},
		{"no format, the zero Field", make([]impl.Field, 1), 5, nil},
		{"no format, a number of at most 0", fieldsOf(aNum(0)), 5, nil},
		{"no format, a number of at most 100", fieldsOf(aNum(100)), 5, nil},
		{"no format, the least Max", fieldsOf(aText(math.MinInt)), 5, nil},
		{"no format, the greatest Max", fieldsOf(aList(math.MaxInt)), 5, nil},
		{"no format, a text of at most 6", fieldsOf(aNum(1), aText(6)), 5, nil},
		{"no format, a kind that is none", fieldsOf(aNum(1), impl.Field{Kind: 4, Max: 1, When: -1}), 5, nil},
		{"no format, a kind that is none and not there", fieldsOf(aNum(1), impl.Field{Kind: 4, Max: 1, When: 0, Is: 0}), 5, nil},
		{"no format, a condition of the field itself", fieldsOf(aNum(1), when(aNum(1), 1, 0)), 5, nil},
		{"no format, a condition of a later field", fieldsOf(aNum(1), when(aText(1), 2, 0), aNum(1)), 5, nil},
		{"no format, seven fields", slices.Repeat(fieldsOf(aNum(1)), 7), 5, nil},
		{"no format, many fields", slices.Repeat(fieldsOf(aNum(1)), 100000), 5, nil},
	}
	for _, c := range cases {
		checkMade(t, c.name, c.l, c.seed, c.m)
	}
}

// tally notes what was made of the fields of one kind.
type tally struct {
	hidden, none, most int
}

func TestMadeMessagesFit(t *testing.T) {
	tallies := map[int]*tally{1: {}, 2: {}, 3: {}}
	for _, l := range someFormats() {
		for _, seed := range someSeeds() {
			m := madeOf(l, seed)
			if !isFilling(l, m) {
				t.Fatalf("the test's own message %v is none of %v", m, l)
			}
			checkMade(t, "a format", l, seed, m)
			for i, v := range m {
				switch n := tallies[l[i].Kind]; {
				case l[i].When != -1 && m[l[i].When].Num != l[i].Is:
					n.hidden++
				case v.Num+len(v.Items) == 0:
					n.none++
				case v.Num+len(v.Items) == l[i].Max:
					n.most++
				}
			}
		}
	}
	for kind, n := range tallies {
		if n.hidden == 0 || n.none == 0 || n.most == 0 {
			t.Errorf("of the kind %d are made only %v", kind, *n)
		}
	}
}

// Every number and every length that a field may have is made of some seed, so also
// a smallest format has more than one message.
func TestEveryNumberIsMade(t *testing.T) {
	for body := range bodies() {
		l := fieldsOf(impl.Field{Kind: body[0], Max: body[1], When: -1})
		met := map[int]bool{}
		for seed := range 300 {
			v := impl.MakeMessage(l, seed)[0]
			met[v.Num+len(v.Items)] = true
		}
		if len(met) != body[1]+1 {
			t.Errorf("of %v are made only %v", l, met)
		}
	}
}

func TestMadeMessagesWithOneOtherNumberInTheFormat(t *testing.T) {
	for _, l := range someFormats() {
		eachChange(l, func(changed []impl.Field) {
			for _, seed := range []int{math.MinInt, -1, 0, 5, math.MaxInt} {
				var m []impl.Value
				if isBuilt(changed) {
					m = madeOf(changed, seed)
				}
				checkMade(t, "another format", changed, seed, m)
			}
		})
	}
}

func TestMadeMessagesWithAnyIntEverywhere(t *testing.T) {
	for _, n := range someNumbers() {
		x := impl.Field{Kind: n, Max: n, When: n, Is: n}
		for size := range 8 {
			checkMade(t, "a list of one number", slices.Repeat(fieldsOf(x), size), n, nil)
			checkCount(t, "a list of one number", slices.Repeat(fieldsOf(x), size), n, 0)
		}
	}
}

func checkCount(t *testing.T, name string, l []impl.Field, most int, want int) {
	t.Helper()
	if got := impl.CountMessages(l, most); got != want {
		t.Errorf("%s: CountMessages(%v, %d) is %d, not %d", name, l, most, got, want)
	}
}

func TestCountMessages(t *testing.T) {
	cases := []struct {
		name string
		l    []impl.Field
		want [6]int // for most of 0 to 5
	}{
		{"a number of two", fieldsOf(aNum(1)), [6]int{0, 2, 2, 2, 2, 2}},
		{"a number of three", fieldsOf(aNum(2)), [6]int{0, 3, 3, 3, 3, 3}},
		{"a number of a hundred", fieldsOf(aNum(99)), [6]int{0, 3, 3, 3, 3, 3}},
		{"a text of at most 1", fieldsOf(aText(1)), [6]int{0, 1, 4, 4, 4, 4}},
		{"a text of at most 2", fieldsOf(aText(2)), [6]int{0, 1, 4, 13, 13, 13}},
		{"a text of at most 5", fieldsOf(aText(5)), [6]int{0, 1, 4, 13, 13, 13}},
		{"a list of at most 1", fieldsOf(aList(1)), [6]int{0, 1, 4, 4, 4, 4}},
		{"a list of at most 5", fieldsOf(aList(5)), [6]int{0, 1, 4, 13, 13, 13}},
		{"two numbers", fieldsOf(aNum(1), aNum(1)), [6]int{0, 0, 4, 4, 4, 4}},
		{"a text and a list, of 2 bytes in one message", fieldsOf(aText(1), aList(1)), [6]int{0, 0, 1, 7, 16, 16}},
		{"five texts, of 5 bytes in one message", slices.Repeat(fieldsOf(aText(5)), 5), [6]int{0, 0, 0, 0, 0, 1}},
		{"five numbers", slices.Repeat(fieldsOf(aNum(99)), 5), [6]int{0, 0, 0, 0, 0, 243}},
		{"six numbers, never of so few bytes", slices.Repeat(fieldsOf(aNum(99)), 6), [6]int{}},
		{"six lists, never of so few bytes", slices.Repeat(fieldsOf(aList(1)), 6), [6]int{}},
		{"a number with a text, of 1 byte in one message", fieldsOf(aNum(1), when(aText(1), 0, 1)), [6]int{0, 1, 2, 5, 5, 5}},
		{"a number with a number, of 1 byte in one message", fieldsOf(aNum(1), when(aNum(9), 0, 1)), [6]int{0, 1, 4, 4, 4, 4}},
		{"a text that is there only with a greater number", fieldsOf(aNum(9), when(aText(5), 0, 3)), [6]int{0, 3, 3, 3, 3, 3}},
		{"five numbers that are there with 0", append(fieldsOf(aNum(9)), slices.Repeat(fieldsOf(when(aNum(9), 0, 0)), 5)...), [6]int{0, 2, 2, 2, 2, 2}},
		{"the document's example", guarded(), [6]int{0, 0, 2, 9, 33, 60}},
		{"two that are not there together", fieldsOf(aNum(3), when(aNum(9), 0, 1), when(aList(2), 0, 2), aNum(5)), [6]int{0, 0, 3, 15, 24, 51}},
		{"six fields", fieldsOf(aNum(1), aText(5), aList(5), when(aText(2), 0, 0), when(aList(2), 0, 1), aNum(99)), [6]int{0, 0, 0, 0, 0, 6}},
		{"nil", nil, [6]int{}},
		{"no fields", []impl.Field{}, [6]int{}},
		{"fields in the spare capacity", guarded()[:0], [6]int{}},
		{"no format, the zero Field", make([]impl.Field, 1), [6]int{}},
		{"no format, a number of at most 100", fieldsOf(aNum(100)), [6]int{}},
		{"no format, a text of at most 6", fieldsOf(aText(6)), [6]int{}},
		{"no format, a kind that is none and not there", fieldsOf(aNum(1), impl.Field{Kind: 4, Max: 1, When: 0, Is: 1}), [6]int{}},
		{"no format, seven fields", slices.Repeat(fieldsOf(aNum(1)), 7), [6]int{}},
	}
	for _, c := range cases {
		for most, want := range c.want {
			checkCount(t, c.name, c.l, most, want)
		}
		for _, most := range []int{math.MinInt, math.MinInt + 5, -1 << 32, -2, -1, 6, 7, 1 << 32, 1<<32 + 5, math.MaxInt} {
			checkCount(t, c.name, c.l, most, 0)
		}
	}
}

// countOf counts by another way than the program's: it builds the messages of small
// numbers, where the program tries every list of bytes.
func countOf(l []impl.Field, m []impl.Value, room int) int {
	if room < 0 {
		return 0
	}
	if len(m) == len(l) {
		return 1
	}
	x := l[len(m)]
	if x.When != -1 && m[x.When].Num != x.Is {
		return countOf(l, append(slices.Clone(m), impl.Value{}), room)
	}
	count, contents := 0, 1
	for n := range min(x.Max, 2) + 1 {
		if x.Kind == 1 {
			count += countOf(l, append(slices.Clone(m), num(n)), room-1)
		} else {
			count += contents * countOf(l, append(slices.Clone(m), impl.Value{}), room-1-n)
			contents *= 3
		}
	}
	return count
}

func TestCountMessagesOfManyFormats(t *testing.T) {
	for _, l := range someFormats() {
		for most := range 6 {
			checkCount(t, "a format", l, most, countOf(l, nil, most))
		}
		eachChange(l, func(changed []impl.Field) {
			want := 0
			if isBuilt(changed) {
				want = countOf(changed, nil, 4)
			}
			checkCount(t, "another format", changed, 4, want)
		})
	}
}

func TestSpoilBytes(t *testing.T) {
	nine := bytesOf(1, 2, 3, 4, 5, 6, 7, 8, 9)
	none := bytesOf(math.MinInt, math.MaxInt, -1, 256)
	cases := []struct {
		name string
		b    []int
		seed int
		want []int
	}{
		{"nil", nil, 5, nil},
		{"empty", []int{}, 5, nil},
		{"empty, with spare capacity", nine[:0], 5, nil},
		{"empty, the least seed", []int{}, math.MinInt, nil},
		{"empty, the greatest seed", []int{}, math.MaxInt, nil},
		{"one byte", bytesOf(7), 5, bytesOf(169)},
		{"one byte, the least seed", bytesOf(7), math.MinInt, bytesOf(212)},
		{"one byte, the greatest seed", bytesOf(7), math.MaxInt, bytesOf(157)},
		{"one byte that is picked again", bytesOf(169), 5, bytesOf(169)},
		{"the first of two", bytesOf(0, 0), 1, bytesOf(157, 0)},
		{"the last of two", bytesOf(0, 0), 2, bytesOf(0, 224)},
		{"the first of three", bytesOf(1, 2, 3), 0, bytesOf(90, 2, 3)},
		{"the last of three", bytesOf(1, 2, 3), 5, bytesOf(1, 2, 169)},
		{"a seed of -1", bytesOf(1, 2, 3), -1, bytesOf(1, 2, 23)},
		{"nine bytes", nine, 9, bytesOf(1, 2, 3, 4, 5, 6, 181, 8, 9)},
		{"nine bytes, the least seed", nine, math.MinInt, bytesOf(1, 2, 3, 4, 5, 6, 7, 212, 9)},
		{"nine bytes, the greatest seed", nine, math.MaxInt, bytesOf(1, 157, 3, 4, 5, 6, 7, 8, 9)},
		{"bytes in the spare capacity", nine[:1], 5, bytesOf(169)},
		{"elements that are no bytes", none, 3, bytesOf(math.MinInt, math.MaxInt, 35, 256)},
		{"elements that are no bytes, another seed", none, 6, bytesOf(math.MinInt, math.MaxInt, -1, 236)},
		{"an element that is no byte alone", bytesOf(math.MinInt), 5, bytesOf(169)},
	}
	for _, c := range cases {
		if got := impl.SpoilBytes(c.b, c.seed); !slices.Equal(got, c.want) {
			t.Errorf("%s: SpoilBytes(%v, %d) is %v, not %v", c.name, c.b, c.seed, got, c.want)
		}
	}
}

func TestSpoilBytesOfManyLists(t *testing.T) {
	sizes := []int{256, 257, 1000, 100000}
	for size := range 40 {
		sizes = append(sizes, size)
	}
	for _, size := range sizes {
		b := slices.Repeat([]int{-7}, size)
		for _, seed := range someSeeds() {
			want := slices.Clone(b)
			if size > 0 {
				want[pickOf(seed, 0, size)] = pickOf(seed, 1, 256)
			}
			if got := impl.SpoilBytes(b, seed); !slices.Equal(got, want) {
				t.Fatalf("SpoilBytes of %d bytes and %d is %.80v", size, seed, fmt.Sprint(got))
			}
		}
	}
}

func TestMadeMessagesKeepArguments(t *testing.T) {
	mark := impl.Field{Kind: 77, Max: 78, When: 79, Is: 80}
	for _, fields := range append(someFormats(), nil, fieldsOf(aList(6)), make([]impl.Field, 2)) {
		l := append(slices.Clone(fields), slices.Repeat(fieldsOf(mark), 8)...)[:len(fields)]
		before := slices.Clone(whole(l))
		for _, seed := range someSeeds() {
			impl.MakeMessage(l, seed)
			impl.MakeBytes(l, seed)
		}
		for most := -1; most <= 6; most++ {
			impl.CountMessages(l, most)
		}
		if !slices.Equal(whole(l), before) {
			t.Errorf("a list is changed to %v from %v", whole(l), before)
		}
	}
	for size := range 20 {
		b := markedBytes(slices.Repeat([]int{-7}, size))
		before := slices.Clone(whole(b))
		for _, seed := range someSeeds() {
			impl.SpoilBytes(b, seed)
		}
		if !slices.Equal(whole(b), before) {
			t.Errorf("bytes are changed to %v from %v", whole(b), before)
		}
	}
}

func TestMadeMessagesShareNoMemory(t *testing.T) {
	for _, l := range someFormats() {
		for _, seed := range someSeeds() {
			var all [][]int
			for range 2 {
				m := impl.MakeMessage(l, seed)
				for _, v := range m {
					all = append(all, v.Items)
				}
				b := impl.MakeBytes(l, seed)
				all = append(all, b, impl.SpoilBytes(b, seed), impl.SpoilBytes(b, seed))
				clear(whole(m))
			}
			checkApart(t, fmt.Sprint(l, seed), all)
			// What was written over has no part in what is made later.
			checkMade(t, "made again", l, seed, madeOf(l, seed))
		}
	}
}

// Also what is made of nothing is the caller's own.
func TestMadeNothingSharesNoMemory(t *testing.T) {
	b := markedBytes(nil)
	for range 2 {
		m := impl.MakeMessage(nil, 5)
		if len(m) != 0 {
			t.Error(m)
		}
		for i := range whole(m) {
			whole(m)[i] = num(7)
		}
		for _, x := range [][]int{impl.MakeBytes(nil, 5), impl.SpoilBytes(b, 5), impl.SpoilBytes(nil, 5)} {
			if len(x) != 0 {
				t.Error(x)
			}
			for i := range whole(x) {
				whole(x)[i] = 7
			}
		}
		if slices.Contains(whole(b), 7) {
			t.Errorf("the argument is changed to %v", whole(b))
		}
	}
}
