package tests

import (
	"fmt"
	"math"
	"slices"
	"testing"

	"loop.example/g03000/impl"
)

// Promise 6: messages are read as they were written, and nothing else is accepted
// (chapter 6).

func bytesOf(b ...int) []int {
	return b
}

// written writes a message by another way than the program's: it knows what is there
// from the numbers that it has met.
func written(l []impl.Field, m []impl.Value) []int {
	b, numbers := []int{}, map[int]int{}
	for i, x := range l {
		guard, met := numbers[x.When]
		switch {
		case x.When != -1 && !(met && guard == x.Is):
		case x.Kind == 1:
			b = append(b, m[i].Num)
			numbers[i] = m[i].Num
		default:
			b = slices.Concat(b, bytesOf(len(m[i].Items)), m[i].Items)
		}
	}
	return b
}

// reading is a message together with how many bytes of a list are its encoding.
type reading struct {
	m    []impl.Value
	size int
}

// readings returns all messages of a format whose encoding is a beginning of b. It
// tries every number and every length that a field may have, where the program goes
// by what the bytes say.
func readings(l []impl.Field, b []int) []reading {
	all := []reading{{}}
	for _, x := range l {
		var longer []reading
		for _, r := range all {
			if x.When != -1 && r.m[x.When].Num != x.Is {
				longer = append(longer, reading{append(slices.Clone(r.m), impl.Value{}), r.size})
				continue
			}
			for n := 0; n <= x.Max; n++ {
				v, part := num(n), bytesOf(n)
				if x.Kind != 1 {
					if len(b)-r.size < 1+n {
						break
					}
					v = items(b[r.size+1 : r.size+1+n]...)
					part = append(part, v.Items...)
				}
				end := r.size + len(part)
				if end <= len(b) && slices.Equal(b[r.size:end], part) && isValueOf(x, v) {
					longer = append(longer, reading{append(slices.Clone(r.m), v), end})
				}
			}
		}
		all = longer
	}
	return all
}

// checkReading holds what the program reads from a list of bytes against the one
// message that is a beginning of it, or against none if m is nil.
func checkReading(t *testing.T, name string, l []impl.Field, b []int, m []impl.Value, size int) {
	t.Helper()
	if m == nil {
		size = -1
	}
	got, n := impl.ReadPrefix(l, b)
	if n != size || fmt.Sprint(got) != fmt.Sprint(m) {
		t.Errorf("%s: ReadPrefix(%v, %.80v) is %v, %d, not %v, %d", name, l, fmt.Sprint(b), got, n, m, size)
	}
	want := m
	if size != len(b) {
		want = nil
	}
	got, ok := impl.DecodeMessage(l, b)
	if ok != (want != nil) || fmt.Sprint(got) != fmt.Sprint(want) {
		t.Errorf("%s: DecodeMessage(%v, %.80v) is %v, %v, not %v", name, l, fmt.Sprint(b), got, ok, want)
	}
}

// checkBytes holds the program against readings.
func checkBytes(t *testing.T, name string, l []impl.Field, b []int) {
	t.Helper()
	all := []reading{}
	if isBuilt(l) {
		all = readings(l, b)
	}
	switch len(all) {
	case 0:
		checkReading(t, name, l, b, nil, -1)
	case 1:
		checkReading(t, name, l, b, all[0].m, all[0].size)
	default:
		t.Fatalf("%s: two messages of %v are beginnings of %v", name, l, b)
	}
}

// checkWriting holds what the program writes against b, or against a failure if b is
// nil.
func checkWriting(t *testing.T, name string, l []impl.Field, m []impl.Value, b []int) {
	t.Helper()
	size := len(b)
	if b == nil {
		size = -1
	}
	got, ok := impl.EncodeMessage(l, m)
	if ok != (b != nil) || !slices.Equal(got, b) {
		t.Errorf("%s: EncodeMessage(%v, %.80v) is %v, %v, not %v", name, l, fmt.Sprint(m), got, ok, b)
	}
	if got := impl.LengthOf(l, m); got != size {
		t.Errorf("%s: LengthOf(%v, %.80v) is %d, not %d", name, l, fmt.Sprint(m), got, size)
	}
}

func TestEncodeMessage(t *testing.T) {
	l := guarded()
	hidden := fieldsOf(aNum(3), when(aNum(9), 0, 1), when(aList(2), 0, 2), aNum(5))
	cases := []struct {
		name string
		l    []impl.Field
		m    []impl.Value
		want []int
	}{
		{"all fields there", l, valuesOf(num(2), items(97, 98), items(5)), bytesOf(2, 2, 97, 98, 1, 5)},
		{"a text that is not there", l, valuesOf(num(1), num(0), num(0)), bytesOf(1, 0)},
		{"a text that is not there, with empty Items", l, valuesOf(num(1), items(), items(4)), bytesOf(1, 1, 4)},
		{"a text of length 0", l, valuesOf(num(2), num(0), items(5)), bytesOf(2, 0, 1, 5)},
		{"a list of length 0", l, valuesOf(num(2), items(7), num(0)), bytesOf(2, 1, 7, 0)},
		{"empty Items", l, valuesOf(num(2), items(), impl.Value{Items: []int{}}), bytesOf(2, 0, 0)},
		{"a text and a list of Max", l, valuesOf(num(2), items(1, 2, 3), items(4, 5)), bytesOf(2, 3, 1, 2, 3, 2, 4, 5)},
		{"Items in the spare capacity", l, valuesOf(num(2), impl.Value{Items: []int{1, 2}[:1]}, impl.Value{Items: []int{1}[:0]}), bytesOf(2, 1, 1, 0)},
		{"a number of 0", fieldsOf(aNum(9)), valuesOf(num(0)), bytesOf(0)},
		{"a number of Max", fieldsOf(aNum(9)), valuesOf(num(9)), bytesOf(9)},
		{"a number of Max and one more", fieldsOf(aNum(9)), valuesOf(num(10)), nil},
		{"a number of MaxNum", fieldsOf(aNum(99)), valuesOf(num(99)), bytesOf(99)},
		{"a number of MaxNum and one more", fieldsOf(aNum(99)), valuesOf(num(100)), nil},
		{"a number of -1", fieldsOf(aNum(9)), valuesOf(num(-1)), nil},
		{"the least number", fieldsOf(aNum(9)), valuesOf(num(math.MinInt)), nil},
		{"the greatest number", fieldsOf(aNum(9)), valuesOf(num(math.MaxInt)), nil},
		{"a number with an Item", fieldsOf(aNum(9)), valuesOf(both(1, 1)), nil},
		{"a text of 0 and 255", fieldsOf(aText(5)), valuesOf(items(0, 255)), bytesOf(2, 0, 255)},
		{"a text of 256", fieldsOf(aText(5)), valuesOf(items(0, 256)), nil},
		{"a text of -1", fieldsOf(aText(5)), valuesOf(items(-1)), nil},
		{"a text of the least int", fieldsOf(aText(5)), valuesOf(items(math.MinInt)), nil},
		{"a text of the greatest int", fieldsOf(aText(5)), valuesOf(items(math.MaxInt)), nil},
		{"a text of MaxLen", fieldsOf(aText(5)), valuesOf(items(5, 4, 3, 2, 1)), bytesOf(5, 5, 4, 3, 2, 1)},
		{"a text of MaxLen and one more", fieldsOf(aText(5)), valuesOf(items(6, 5, 4, 3, 2, 1)), nil},
		{"a text with a Num", fieldsOf(aText(5)), valuesOf(both(1, 7)), nil},
		{"a text with a Num alone", fieldsOf(aText(5)), valuesOf(num(1)), nil},
		{"a list of 0 and MaxNum", fieldsOf(aList(5)), valuesOf(items(0, 99)), bytesOf(2, 0, 99)},
		{"a list of MaxNum and one more", fieldsOf(aList(5)), valuesOf(items(0, 100)), nil},
		{"a list of -1", fieldsOf(aList(5)), valuesOf(items(-1)), nil},
		{"a list of the least int", fieldsOf(aList(5)), valuesOf(items(math.MinInt)), nil},
		{"a list of the greatest int", fieldsOf(aList(5)), valuesOf(items(math.MaxInt)), nil},
		{"a list of MaxLen", fieldsOf(aList(5)), valuesOf(items(0, 0, 0, 0, 0)), bytesOf(5, 0, 0, 0, 0, 0)},
		{"a list of MaxLen and one more", fieldsOf(aList(5)), valuesOf(items(0, 0, 0, 0, 0, 0)), nil},
		{"a list with a Num", fieldsOf(aList(5)), valuesOf(both(1, 7)), nil},
		{"one of two that are not there together", hidden, valuesOf(num(1), num(8), num(0), num(5)), bytesOf(1, 8, 5)},
		{"the other of two", hidden, valuesOf(num(2), num(0), items(3, 4), num(5)), bytesOf(2, 2, 3, 4, 5)},
		{"none of two", hidden, valuesOf(num(3), num(0), num(0), num(5)), bytesOf(3, 5)},
		{"one that is not there with a number", hidden, valuesOf(num(2), num(8), num(0), num(5)), nil},
		{"one that is not there with Items", hidden, valuesOf(num(1), num(8), items(3), num(5)), nil},
		{"one that is not there with a Num", l, valuesOf(num(1), num(1), num(0)), nil},
		{"no values", l, nil, nil},
		{"an empty list of values", l, []impl.Value{}, nil},
		{"a value too few", l, valuesOf(num(2), items(97)), nil},
		{"a value too many", l, valuesOf(num(2), items(97), items(5), num(0)), nil},
		{"no fields", nil, nil, nil},
		{"no fields, a value", []impl.Field{}, valuesOf(num(0)), nil},
		{"no format", fieldsOf(aNum(100)), valuesOf(num(1)), nil},
		{"no format, the zero Field", make([]impl.Field, 1), make([]impl.Value, 1), nil},
		{"no format, a kind that is none", fieldsOf(aNum(1), impl.Field{Kind: 4, Max: 1, When: -1}), valuesOf(num(1), num(0)), nil},
		{"no format, a kind that is none and not there", fieldsOf(aNum(1), impl.Field{Kind: 4, Max: 1, When: 0, Is: 1}), valuesOf(num(0), num(0)), nil},
		{"no format, the least kind", fieldsOf(impl.Field{Kind: math.MinInt, Max: 1, When: -1}), valuesOf(num(0)), nil},
		{"no format, the greatest kind", fieldsOf(impl.Field{Kind: math.MaxInt, Max: 1, When: -1}), valuesOf(num(0)), nil},
		{"no format, seven fields", slices.Repeat(fieldsOf(aNum(1)), 7), slices.Repeat(valuesOf(num(0)), 7), nil},
		{"six fields", slices.Repeat(fieldsOf(aNum(1)), 6), valuesOf(num(1), num(0), num(1), num(1), num(0), num(0)), bytesOf(1, 0, 1, 1, 0, 0)},
	}
	for _, c := range cases {
		checkWriting(t, c.name, c.l, c.m, c.want)
	}
}

func TestDecodeMessage(t *testing.T) {
	l := guarded()
	number, text, list := fieldsOf(aNum(9)), fieldsOf(aText(3)), fieldsOf(aList(3))
	cases := []struct {
		name string
		l    []impl.Field
		b    []int
		m    []impl.Value
		size int
	}{
		{"all fields there", l, bytesOf(2, 2, 97, 98, 1, 5), valuesOf(num(2), items(97, 98), items(5)), 6},
		{"a byte too many", l, bytesOf(2, 2, 97, 98, 1, 5, 0), valuesOf(num(2), items(97, 98), items(5)), 6},
		{"a byte too few", l, bytesOf(2, 2, 97, 98, 1), nil, 0},
		{"a byte in the spare capacity", l, bytesOf(2, 2, 97, 98, 1, 5)[:5], nil, 0},
		{"two messages", l, bytesOf(1, 0, 1, 0), valuesOf(num(1), num(0), num(0)), 2},
		{"a field that is not there, without bytes", l, bytesOf(1, 0), valuesOf(num(1), num(0), num(0)), 2},
		{"a field that is not there, with a length of 0", l, bytesOf(1, 0, 0), valuesOf(num(1), num(0), num(0)), 2},
		{"a field that is not there, with a length of 0 before a list", l, bytesOf(1, 0, 1, 5), valuesOf(num(1), num(0), num(0)), 2},
		{"a field that is not there, with a text", l, bytesOf(1, 3, 97, 98, 99, 0), nil, 0},
		{"a field that is there, without bytes", l, bytesOf(2, 0), nil, 0},
		{"a field that is there, without bytes before a list", l, bytesOf(2, 1, 5), nil, 0},
		{"a number that is not there, with a byte", fieldsOf(aNum(2), when(aNum(9), 0, 1)), bytesOf(2, 7), valuesOf(num(2), num(0)), 1},
		{"a number that is not there, without a byte", fieldsOf(aNum(2), when(aNum(9), 0, 1)), bytesOf(2), valuesOf(num(2), num(0)), 1},
		{"a number that is there, with a byte", fieldsOf(aNum(2), when(aNum(9), 0, 1)), bytesOf(1, 7), valuesOf(num(1), num(7)), 2},
		{"a number that is there, without a byte", fieldsOf(aNum(2), when(aNum(9), 0, 1)), bytesOf(1), nil, 0},
		{"nil", l, nil, nil, 0},
		{"empty", l, []int{}, nil, 0},
		{"empty, with spare capacity", l, bytesOf(1, 0)[:0], nil, 0},
		{"a list whose length of 0 is the last byte", l, bytesOf(2, 1, 97, 0), valuesOf(num(2), items(97), num(0)), 4},
		{"a list whose length of 1 is the last byte", l, bytesOf(2, 1, 97, 1), nil, 0},
		{"a list whose length of Max is the last byte", l, bytesOf(2, 1, 97, 2), nil, 0},
		{"a list whose length of Max and one more is the last byte", l, bytesOf(2, 1, 97, 3), nil, 0},
		{"a list whose length of -1 is the last byte", l, bytesOf(2, 1, 97, -1), nil, 0},
		{"a text whose length of 0 is the last byte", fieldsOf(aNum(1), aText(3)), bytesOf(1, 0), valuesOf(num(1), num(0)), 2},
		{"a text whose length of 1 is the last byte", fieldsOf(aNum(1), aText(3)), bytesOf(1, 1), nil, 0},
		{"a text whose length of Max is the last byte", fieldsOf(aNum(1), aText(3)), bytesOf(1, 3), nil, 0},
		{"a text without its length", fieldsOf(aNum(1), aText(3)), bytesOf(1), nil, 0},
		{"a list without its length", l, bytesOf(2, 1, 97), nil, 0},
		{"a text and a list, both of length 0", fieldsOf(aText(1), aList(1)), bytesOf(0, 0), valuesOf(num(0), num(0)), 2},
		{"a number of -1", number, bytesOf(-1), nil, 0},
		{"a number of 0", number, bytesOf(0), valuesOf(num(0)), 1},
		{"a number of Max", number, bytesOf(9), valuesOf(num(9)), 1},
		{"a number of Max and one more", number, bytesOf(10), nil, 0},
		{"a number of MaxNum", fieldsOf(aNum(99)), bytesOf(99), valuesOf(num(99)), 1},
		{"a number of MaxNum and one more", fieldsOf(aNum(99)), bytesOf(100), nil, 0},
		{"the least number", number, bytesOf(math.MinInt), nil, 0},
		{"the greatest number", number, bytesOf(math.MaxInt), nil, 0},
		{"a number of 2 to the power of 32", number, bytesOf(1 << 32), nil, 0},
		{"a number and a byte that is none", number, bytesOf(9, math.MinInt), valuesOf(num(9)), 1},
		{"a text of length 0 alone", text, bytesOf(0), valuesOf(num(0)), 1},
		{"a text of length 1 alone", text, bytesOf(1), nil, 0},
		{"a text of length 0 and an item", text, bytesOf(0, 7), valuesOf(num(0)), 1},
		{"a text with an item missing", text, bytesOf(2, 7), nil, 0},
		{"a text of Max", text, bytesOf(3, 7, 8, 9), valuesOf(items(7, 8, 9)), 4},
		{"a text of Max and one more", text, bytesOf(4, 7, 8, 9, 10), nil, 0},
		{"a text of Max and one more, with an item missing", text, bytesOf(4, 7, 8, 9), nil, 0},
		{"a text of length -1", text, bytesOf(-1), nil, 0},
		{"a text of length -1 and items", text, bytesOf(-1, 7, 8), nil, 0},
		{"a text of the least length", text, bytesOf(math.MinInt, 7, 8), nil, 0},
		{"a text of the greatest length", text, bytesOf(math.MaxInt, 7, 8), nil, 0},
		{"a text of the greatest length less one", text, bytesOf(math.MaxInt-1, 7, 8), nil, 0},
		{"a text of 0 and 255", text, bytesOf(2, 0, 255), valuesOf(items(0, 255)), 3},
		{"a text of 256", text, bytesOf(1, 256), nil, 0},
		{"a text of 256 after its items", text, bytesOf(1, 255, 256), valuesOf(items(255)), 2},
		{"a text of -1", text, bytesOf(2, 0, -1), nil, 0},
		{"a text of the least int", text, bytesOf(1, math.MinInt), nil, 0},
		{"a text of the greatest int", text, bytesOf(1, math.MaxInt), nil, 0},
		{"a text of MaxLen", fieldsOf(aText(5)), bytesOf(5, 1, 2, 3, 4, 5), valuesOf(items(1, 2, 3, 4, 5)), 6},
		{"a text of MaxLen and one more", fieldsOf(aText(5)), bytesOf(6, 1, 2, 3, 4, 5, 6), nil, 0},
		{"a list of length 0 alone", list, bytesOf(0), valuesOf(num(0)), 1},
		{"a list of length 1 alone", list, bytesOf(1), nil, 0},
		{"a list with an item missing", list, bytesOf(3, 7, 8), nil, 0},
		{"a list of Max", list, bytesOf(3, 7, 8, 9), valuesOf(items(7, 8, 9)), 4},
		{"a list of Max and one more", list, bytesOf(4, 7, 8, 9, 10), nil, 0},
		{"a list of length -1", list, bytesOf(-1, 7), nil, 0},
		{"a list of the least length", list, bytesOf(math.MinInt), nil, 0},
		{"a list of the greatest length", list, bytesOf(math.MaxInt), nil, 0},
		{"a list of 0 and MaxNum", list, bytesOf(2, 0, 99), valuesOf(items(0, 99)), 3},
		{"a list of MaxNum and one more", list, bytesOf(2, 0, 100), nil, 0},
		{"a list of 255", list, bytesOf(1, 255), nil, 0},
		{"a list of -1", list, bytesOf(1, -1), nil, 0},
		{"a list of the least int", list, bytesOf(1, math.MinInt), nil, 0},
		{"a list of the greatest int", list, bytesOf(1, math.MaxInt), nil, 0},
		{"a greatest length behind a text", fieldsOf(aText(1), aList(1)), bytesOf(1, 7, math.MaxInt, 3), nil, 0},
		{"a length that is the number of all bytes", fieldsOf(aNum(1), aText(5)), bytesOf(1, 4, 7, 7), nil, 0},
		{"no fields, no bytes", nil, nil, nil, 0},
		{"an empty list of fields, no bytes", []impl.Field{}, []int{}, nil, 0},
		{"no fields, a byte", nil, bytesOf(0), nil, 0},
		{"fields in the spare capacity", l[:0], bytesOf(1, 0), nil, 0},
		{"no format, no bytes", fieldsOf(aNum(100)), nil, nil, 0},
		{"no format, a byte", fieldsOf(aNum(100)), bytesOf(1), nil, 0},
		{"no format, the zero Field", make([]impl.Field, 1), bytesOf(0), nil, 0},
		{"no format, the zero Field, no bytes", make([]impl.Field, 1), []int{}, nil, 0},
		{"no format, a kind that is none and not there", fieldsOf(aNum(1), impl.Field{Kind: 4, Max: 1, When: 0, Is: 1}), bytesOf(0), nil, 0},
		{"no format, a kind of -1", fieldsOf(impl.Field{Kind: -1, Max: 1, When: -1}), bytesOf(0), nil, 0},
		{"no format, the greatest kind", fieldsOf(impl.Field{Kind: math.MaxInt, Max: 1, When: -1}), bytesOf(0), nil, 0},
		{"no format, seven fields", slices.Repeat(fieldsOf(aNum(1)), 7), make([]int, 7), nil, 0},
		{"six fields", slices.Repeat(fieldsOf(aNum(1)), 6), make([]int, 7), make([]impl.Value, 6), 6},
	}
	for _, c := range cases {
		checkReading(t, c.name, c.l, c.b, c.m, c.size)
	}
}

// eachList calls use with every list of at most most numbers from an alphabet.
func eachList(alphabet []int, most int, use func(b []int)) {
	level := [][]int{{}}
	for range most + 1 {
		var longer [][]int
		for _, b := range level {
			use(b)
			for _, n := range alphabet {
				longer = append(longer, append(slices.Clone(b), n))
			}
		}
		level = longer
	}
}

// Every short list of bytes is either the encoding of one message that the test
// builds itself or it is not accepted.
func TestDecodeEveryShortList(t *testing.T) {
	smallest := [][]impl.Field{
		{aNum(2)}, {aText(2)}, {aList(2)},
		{aNum(2), aNum(1)}, {aText(1), aList(2)}, {aNum(1), aList(3)},
		{aNum(1), when(aNum(2), 0, 1), aList(1)},
		{aNum(2), when(aText(2), 0, 2), when(aList(1), 0, 0)},
		{aText(1), aNum(2), when(aText(2), 1, 0), when(aNum(1), 1, 2)},
		{aNum(1), aNum(1), when(aNum(2), 0, 0), when(aNum(2), 1, 1), when(aNum(2), 0, 1), aText(1)},
	}
	for _, l := range smallest {
		accepted := 0
		eachList([]int{-1, 0, 1, 2, 3}, 5, func(b []int) {
			checkBytes(t, "a short list", l, b)
			if m, ok := impl.DecodeMessage(l, b); ok {
				accepted++
				checkWriting(t, "a message that was decoded", l, m, b)
			}
		})
		if accepted == 0 {
			t.Errorf("no list is accepted for %v", l)
		}
	}
}

// codedMessages returns messages of a format, some with the greatest values.
func codedMessages(l []impl.Field) [][]impl.Value {
	return append(aboutForty(fillings(l, 3)), aboutForty(fillings(l, 12))...)
}

func TestMessagesAreReadAsWritten(t *testing.T) {
	for _, l := range someFormats() {
		met := map[string]string{}
		for _, m := range codedMessages(l) {
			b := written(l, m)
			checkWriting(t, "a message", l, m, b)
			checkReading(t, "its encoding", l, b, m, len(b))
			for size := range len(b) {
				checkReading(t, "a beginning of an encoding", l, b[:size:size], nil, -1)
			}
			for _, tail := range [][]int{{0}, {1}, {-1}, {math.MinInt}, {math.MaxInt}, b, slices.Repeat([]int{0}, 1000)} {
				checkReading(t, "an encoding and more", l, slices.Concat(b, tail), m, len(b))
			}
			if len(b) > impl.LongestOf(l) {
				t.Errorf("%v is longer than LongestOf(%v)", b, l)
			}
			key, text := fmt.Sprint(b), impl.MessageText(m)
			if other, ok := met[key]; ok && other != text {
				t.Errorf("%s and %s of %v are both %v", other, text, l, b)
			}
			met[key] = text
		}
	}
}

func TestSpoiledEncodings(t *testing.T) {
	for _, l := range someFormats() {
		for _, m := range codedMessages(l) {
			b := written(l, m)
			for i := range b {
				checkBytes(t, "a byte left out", l, slices.Delete(slices.Clone(b), i, i+1))
				for _, n := range append(someNumbers(), b[i]-1, b[i]+1, b[i]+256, 9, 10, 255, 256) {
					changed := slices.Clone(b)
					changed[i] = n
					checkBytes(t, "a byte changed", l, changed)
				}
			}
			for i := range len(b) + 1 {
				for _, n := range []int{math.MinInt, -1, 0, 1, 2, 5, 6, 99, 100, 255, 256, math.MaxInt} {
					checkBytes(t, "a byte added", l, slices.Insert(slices.Clone(b), i, n))
				}
			}
		}
	}
}

func TestMessagesThatDoNotFit(t *testing.T) {
	for _, l := range someFormats() {
		for _, m := range aboutForty(fillings(l, 2)) {
			for i := range m {
				for _, v := range candidates() {
					changed := slices.Clone(m)
					changed[i] = v
					var want []int
					if isFilling(l, changed) {
						want = written(l, changed)
					}
					checkWriting(t, "one value changed", l, changed, want)
				}
			}
			checkWriting(t, "a value too few", l, m[:len(m)-1], nil)
			checkWriting(t, "a value too many", l, append(slices.Clone(m), impl.Value{}), nil)
		}
	}
}

// longestOf adds up by another way than the program's: it counts the bytes of the
// longest value of each field.
func longestOf(l []impl.Field) int {
	var all []int
	for _, x := range l {
		if all = append(all, 0); x.Kind != 1 {
			all = append(all, make([]int, x.Max)...)
		}
	}
	return len(all)
}

func TestCodesWithOneOtherNumberInTheFormat(t *testing.T) {
	for _, l := range someFormats() {
		m := fillings(l, 1)[0]
		b := written(l, m)
		eachChange(l, func(changed []impl.Field) {
			var want []int
			wantLongest := 0
			if isBuilt(changed) {
				wantLongest = longestOf(changed)
				if isFilling(changed, m) {
					want = written(changed, m)
				}
			}
			checkWriting(t, "another format", changed, m, want)
			checkBytes(t, "another format", changed, b)
			checkBytes(t, "another format", changed, nil)
			checkBytes(t, "another format", changed, slices.Concat(b, b))
			if got := impl.LongestOf(changed); got != wantLongest {
				t.Errorf("LongestOf(%v) is %d, not %d", changed, got, wantLongest)
			}
		})
	}
}

func TestCodesWithAnyIntEverywhere(t *testing.T) {
	for _, n := range someNumbers() {
		x := impl.Field{Kind: n, Max: n, When: n, Is: n}
		for size := range 8 {
			l := slices.Repeat(fieldsOf(x), size)
			m := slices.Repeat(valuesOf(num(n)), size)
			b := slices.Repeat(bytesOf(n), size)
			checkWriting(t, "a list of one number", l, m, nil)
			checkReading(t, "a list of one number", l, b, nil, -1)
			if got := impl.LongestOf(l); got != 0 {
				t.Errorf("LongestOf(%v) is %d", l, got)
			}
			for _, format := range someFormats() {
				checkBytes(t, "bytes of one number", format, b)
			}
		}
	}
}

func TestLongBytes(t *testing.T) {
	l := fieldsOf(aNum(9), aText(5), aList(5))
	tail := slices.Repeat([]int{1}, 100000)
	checkReading(t, "a long tail", l, slices.Concat(bytesOf(9, 1, 255, 0), tail), valuesOf(num(9), items(255), num(0)), 4)
	checkReading(t, "a length of all the rest", l, slices.Concat(bytesOf(9, len(tail)), tail), nil, -1)
	checkReading(t, "a length beyond all the rest", l, slices.Concat(bytesOf(9, len(tail)+1), tail), nil, -1)
	checkReading(t, "no format", slices.Repeat(l, 1000), tail, nil, -1)
	checkWriting(t, "no format", slices.Repeat(l, 1000), make([]impl.Value, 3000), nil)
	checkWriting(t, "too many values", l, make([]impl.Value, 100000), nil)
	checkWriting(t, "a long value", l, valuesOf(num(9), items(tail...), num(0)), nil)
}

func TestLongestOf(t *testing.T) {
	cases := []struct {
		l    []impl.Field
		want int
	}{
		{guarded(), 8},
		{fieldsOf(aNum(1)), 1},
		{fieldsOf(aNum(99)), 1},
		{fieldsOf(aText(1)), 2},
		{fieldsOf(aText(5)), 6},
		{fieldsOf(aList(1)), 2},
		{fieldsOf(aList(5)), 6},
		{fieldsOf(aText(3), aList(4)), 9},
		// Fields that are never there together count as well.
		{fieldsOf(aNum(1), when(aNum(99), 0, 0), when(aNum(99), 0, 1)), 3},
		{fieldsOf(aNum(9), when(aText(5), 0, 0), when(aList(5), 0, 1), when(aText(1), 0, 2)), 15},
		{slices.Repeat(fieldsOf(aText(5)), 6), 36},
		{slices.Repeat(fieldsOf(aNum(5)), 6), 6},
		{slices.Repeat(fieldsOf(aList(5)), 7), 0},
		{nil, 0},
		{[]impl.Field{}, 0},
		{guarded()[:0], 0},
		{guarded()[:2], 5},
		{make([]impl.Field, 1), 0},
		{fieldsOf(aNum(100)), 0},
		{fieldsOf(aNum(0)), 0},
		{fieldsOf(aText(6)), 0},
		{fieldsOf(aList(6)), 0},
		{fieldsOf(aText(0)), 0},
		{fieldsOf(aText(math.MaxInt)), 0},
		{fieldsOf(aList(math.MinInt)), 0},
		{fieldsOf(aNum(1), when(aText(5), 0, 2)), 0},
		{fieldsOf(aNum(1), when(aText(5), -2, 0)), 0},
		{fieldsOf(aNum(1), impl.Field{Kind: 4, Max: 1, When: -1}), 0},
		{fieldsOf(impl.Field{Kind: math.MinInt, Max: 1, When: -1}), 0},
		{fieldsOf(impl.Field{Kind: math.MaxInt, Max: 1, When: -1}), 0},
	}
	for _, c := range cases {
		if got := impl.LongestOf(c.l); got != c.want {
			t.Errorf("LongestOf(%v) is %d, not %d", c.l, got, c.want)
		}
	}
	for _, l := range someFormats() {
		if got := impl.LongestOf(l); got != longestOf(l) {
			t.Errorf("LongestOf(%v) is %d, not %d", l, got, longestOf(l))
		}
	}
}

// markedBytes returns a copy of a list with marks in its spare capacity.
func markedBytes(b []int) []int {
	return append(slices.Clone(b), slices.Repeat([]int{777}, 20)...)[:len(b)]
}

func TestCodesKeepArguments(t *testing.T) {
	mark := impl.Field{Kind: 77, Max: 78, When: 79, Is: 80}
	for _, fields := range append(someFormats(), nil, fieldsOf(aList(6)), make([]impl.Field, 2)) {
		l := append(slices.Clone(fields), slices.Repeat(fieldsOf(mark), 8)...)[:len(fields)]
		fieldsBefore := slices.Clone(whole(l))
		messages := someMessages()
		if isBuilt(l) {
			messages = append(messages, codedMessages(l)...)
		}
		for _, m := range messages {
			b := bytesOf(3, 1, 1, 1)
			if isBuilt(l) && isFilling(l, m) {
				b = written(l, m)
			}
			m, b := markedMessage(m), markedBytes(b)
			before, bytesBefore := memoryOf(m), slices.Clone(whole(b))
			impl.EncodeMessage(l, m)
			impl.LengthOf(l, m)
			impl.LongestOf(l)
			for size := range len(b) + 1 {
				impl.DecodeMessage(l, b[:size])
				impl.ReadPrefix(l, b[:size])
			}
			if memoryOf(m) != before || !slices.Equal(whole(b), bytesBefore) {
				t.Errorf("an argument is changed to %v, %v", whole(m), whole(b))
			}
		}
		if !slices.Equal(whole(l), fieldsBefore) {
			t.Errorf("a list is changed to %v from %v", whole(l), fieldsBefore)
		}
	}
}

// checkApart writes over all memory of each list, its spare capacity too, and reports
// whether another one changes by it.
func checkApart(t *testing.T, name string, lists [][]int) {
	t.Helper()
	checkAllApart(t, name, lists, func(n *int) { *n += 1000 })
}

// checkAllApart is checkApart for lists of anything, with a change that shows.
func checkAllApart[T any](t *testing.T, name string, lists [][]T, change func(x *T)) {
	t.Helper()
	for i, list := range lists {
		before := fmt.Sprint(lists[:i], lists[i+1:])
		for k := range whole(list) {
			change(&whole(list)[k])
		}
		if fmt.Sprint(lists[:i], lists[i+1:]) != before {
			t.Fatalf("%s: the lists share memory: %v", name, lists)
		}
	}
}

func TestCodesShareNoMemory(t *testing.T) {
	for _, l := range someFormats() {
		for _, m := range codedMessages(l) {
			m, b := cloneMessage(m), markedBytes(written(l, m))
			all := [][]int{whole(b)}
			for _, v := range m {
				all = append(all, v.Items)
			}
			for range 2 {
				out, _ := impl.EncodeMessage(l, m)
				x, _ := impl.DecodeMessage(l, b)
				y, _ := impl.ReadPrefix(l, b[:len(b)+2])
				all = append(all, out)
				for i := range l {
					all = append(all, x[i].Items, y[i].Items)
				}
				clear(whole(x))
				if y2, _ := impl.ReadPrefix(l, b); !impl.EqualMessages(y, y2) || !impl.EqualMessages(y, m) {
					t.Errorf("messages of %v share memory", l)
				}
			}
			checkApart(t, fmt.Sprint(l), all)
		}
	}
}

// Also the empty results of failures are the caller's own.
func TestFailuresShareNoMemory(t *testing.T) {
	l := guarded()
	for range 2 {
		b, _ := impl.EncodeMessage(l, nil)
		m, _ := impl.DecodeMessage(l, nil)
		p, _ := impl.ReadPrefix(nil, nil)
		if len(b) != 0 || len(m) != 0 || len(p) != 0 {
			t.Error(b, m, p)
		}
		for i := range whole(b) {
			whole(b)[i] = 7
		}
		for i := range whole(m) {
			whole(m)[i] = num(7)
		}
		for i := range whole(p) {
			whole(p)[i] = num(7)
		}
	}
}
