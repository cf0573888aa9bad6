package tests

import (
	"fmt"
	"math"
	"slices"
	"strings"
	"testing"

	"loop.example/g03000/impl"
)

// Promise 4: exactly formats have a text (chapter 4).

// Short words for the fields of the tables.
func aNum(greatest int) impl.Field  { return impl.Field{Kind: impl.FkNum, Max: greatest, When: -1} }
func aText(greatest int) impl.Field { return impl.Field{Kind: impl.FkText, Max: greatest, When: -1} }
func aList(greatest int) impl.Field { return impl.Field{Kind: impl.FkList, Max: greatest, When: -1} }

func when(x impl.Field, guard int, is int) impl.Field {
	x.When, x.Is = guard, is
	return x
}

func fieldsOf(fields ...impl.Field) []impl.Field {
	return fields
}

// bodies returns every Kind and Max that a field of a format may have.
func bodies() map[[2]int]bool {
	all := map[[2]int]bool{}
	for greatest := 1; greatest <= 99; greatest++ {
		all[[2]int{1, greatest}] = true
	}
	for greatest := 1; greatest <= 5; greatest++ {
		all[[2]int{2, greatest}] = true
		all[[2]int{3, greatest}] = true
	}
	return all
}

// conditionsAfter returns every When and Is that a field may have behind the fields
// of a format: it builds them, where the program judges them.
func conditionsAfter(before []impl.Field) map[[2]int]bool {
	all := map[[2]int]bool{{-1, 0}: true}
	for i, x := range before {
		if x.Kind == 1 && x.When == -1 {
			for is := 0; is <= x.Max; is++ {
				all[[2]int{i, is}] = true
			}
		}
	}
	return all
}

// isBuilt reports whether a list is among the formats that can be built.
func isBuilt(l []impl.Field) bool {
	all := bodies()
	for i, x := range l {
		if !all[[2]int{x.Kind, x.Max}] || !conditionsAfter(l[:i])[[2]int{x.When, x.Is}] {
			return false
		}
	}
	return len(l) >= 1 && len(l) <= 6
}

// textOf writes the text of a format by another way than the program's.
func textOf(l []impl.Field) string {
	names := map[int]string{1: "num", 2: "text", 3: "list"}
	var out strings.Builder
	for i, x := range l {
		if i > 0 {
			out.WriteByte(' ')
		}
		fmt.Fprintf(&out, "%s%d", names[x.Kind], x.Max)
		if x.When != -1 {
			fmt.Fprintf(&out, "?%d=%d", x.When, x.Is)
		}
	}
	return out.String()
}

// checkFormat holds what the program says of a list against whether it is a format.
func checkFormat(t *testing.T, l []impl.Field, want bool) {
	t.Helper()
	if got := impl.IsFormat(l); got != want {
		t.Errorf("IsFormat(%v) is %v", l, got)
	}
	wantText := ""
	if want {
		wantText = textOf(l)
	}
	if got := impl.FormatText(l); got != wantText {
		t.Errorf("FormatText(%v) is %q, not %q", l, got, wantText)
	}
}

// someFormats returns formats of each length.
func someFormats() [][]impl.Field {
	return [][]impl.Field{
		{aNum(1)}, {aNum(99)}, {aText(1)}, {aText(5)}, {aList(1)}, {aList(5)},
		{aNum(9), when(aText(3), 0, 2), aList(2)},
		{aNum(1), aNum(99)},
		{aNum(2), when(aNum(2), 0, 2)},
		{aText(2), aNum(3), when(aList(4), 1, 3)},
		{aList(2), aText(2), aNum(1), when(aText(1), 2, 0)},
		{aNum(1), when(aNum(5), 0, 1), aNum(7), when(aList(1), 2, 7), when(aText(1), 0, 0)},
		{aNum(99), when(aNum(99), 0, 99), when(aText(5), 0, 0), when(aList(5), 0, 50), aNum(98)},
		{aNum(1), when(aNum(1), 0, 0), when(aNum(1), 0, 1), when(aText(1), 0, 0), when(aList(1), 0, 1), aNum(1)},
		{aNum(1), aNum(2), aNum(3), aNum(4), aNum(5), when(aNum(6), 4, 5)},
	}
}

// someNumbers returns numbers about each limit of the chapter, and ints that are
// beyond all of them.
func someNumbers() []int {
	return []int{
		math.MinInt, math.MinInt + 1, -1 << 32, -2, -1, 0, 1, 2, 3, 4, 5, 6, 7, 50, 98, 99, 100, 101,
		1 << 32, 1<<32 + 1, math.MaxInt - 1, math.MaxInt,
	}
}

func TestFormatLimits(t *testing.T) {
	got := []int{impl.FkNum, impl.FkText, impl.FkList, impl.MaxFields, impl.MaxNum, impl.MaxLen}
	if want := []int{1, 2, 3, 6, 99, 5}; !slices.Equal(got, want) {
		t.Errorf("the constants are %v, not %v", got, want)
	}
}

func TestFieldName(t *testing.T) {
	names := map[int]string{1: "num", 2: "text", 3: "list"}
	for _, kind := range append(someNumbers(), -3, 8, 257, 1<<32+2, 1<<32+3) {
		if got := impl.FieldName(kind); got != names[kind] {
			t.Errorf("FieldName(%d) is %q, not %q", kind, got, names[kind])
		}
	}
}

func TestFormatText(t *testing.T) {
	cases := []struct {
		l    []impl.Field
		want string
	}{
		{fieldsOf(aNum(9), when(aText(3), 0, 2), aList(2)), "num9 text3?0=2 list2"},
		{fieldsOf(aNum(1)), "num1"},
		{fieldsOf(aNum(impl.MaxNum)), "num99"},
		{fieldsOf(aText(1)), "text1"},
		{fieldsOf(aText(impl.MaxLen)), "text5"},
		{fieldsOf(aList(1)), "list1"},
		{fieldsOf(aList(impl.MaxLen)), "list5"},
		{fieldsOf(aNum(10), when(aNum(20), 0, 0)), "num10 num20?0=0"},
		{fieldsOf(aText(1), aNum(12), when(aList(2), 1, 12), when(aNum(1), 1, 0)), "text1 num12 list2?1=12 num1?1=0"},
		{fieldsOf(aNum(1), aNum(2), aNum(3), aNum(4), aNum(5), when(aText(1), 4, 5)), "num1 num2 num3 num4 num5 text1?4=5"},
	}
	for _, c := range cases {
		checkFormat(t, c.l, true)
		if got := impl.FormatText(c.l); got != c.want {
			t.Errorf("FormatText(%v) is %q, not %q", c.l, got, c.want)
		}
	}
	for _, l := range someFormats() {
		checkFormat(t, l, true)
	}
}

func TestFormatsByLength(t *testing.T) {
	checkFormat(t, nil, false)
	checkFormat(t, []impl.Field{}, false)
	// What lies in the spare capacity is not part of the list.
	checkFormat(t, fieldsOf(aNum(1), aNum(2))[:0], false)
	checkFormat(t, fieldsOf(aNum(1), aNum(0))[:1], true)
	for _, x := range fieldsOf(aNum(9), aText(3), aList(3)) {
		for n := range 40 {
			checkFormat(t, slices.Repeat(fieldsOf(x), n), n >= 1 && n <= impl.MaxFields)
		}
		checkFormat(t, slices.Repeat(fieldsOf(x), 10000), false)
	}
	for _, l := range someFormats() {
		for n := range len(l) + 1 {
			checkFormat(t, l[:n], n > 0)
		}
		for len(l) < impl.MaxFields {
			l = append(l, aList(1))
		}
		checkFormat(t, l, true)
		checkFormat(t, append(slices.Clone(l), aList(1)), false)
	}
	for n := range 10 {
		checkFormat(t, make([]impl.Field, n), false)
	}
}

func TestFormatKindsAndMaxima(t *testing.T) {
	greatest := map[int]int{impl.FkNum: impl.MaxNum, impl.FkText: impl.MaxLen, impl.FkList: impl.MaxLen}
	for _, kind := range someNumbers() {
		for _, n := range someNumbers() {
			x := impl.Field{Kind: kind, Max: n, When: -1}
			want := n >= 1 && n <= greatest[kind]
			checkFormat(t, fieldsOf(x), want)
			checkFormat(t, fieldsOf(aNum(1), x), want)
			checkFormat(t, fieldsOf(x, aNum(1)), want)
			checkFormat(t, fieldsOf(aNum(1), when(x, 0, 1)), want)
			checkFormat(t, fieldsOf(aNum(1), aText(1), aList(1), aNum(1), aNum(1), x), want)
		}
	}
}

func TestFormatConditions(t *testing.T) {
	cases := []struct {
		name string
		l    []impl.Field
		want bool
	}{
		{"no condition", fieldsOf(aNum(1)), true},
		{"no condition with an Is", fieldsOf(when(aNum(1), -1, 1)), false},
		{"no condition with an Is below 0", fieldsOf(when(aNum(1), -1, -1)), false},
		{"no condition with an Is, after a number", fieldsOf(aNum(1), when(aText(1), -1, 1)), false},
		{"a first field that looks at itself", fieldsOf(when(aNum(1), 0, 0)), false},
		{"a first field that looks at itself, before another", fieldsOf(when(aNum(1), 0, 1), aNum(1)), false},
		{"a second field that looks at itself", fieldsOf(aNum(1), when(aNum(1), 1, 0)), false},
		{"a last field that looks at itself", fieldsOf(aNum(1), aNum(1), aNum(1), aNum(1), aNum(1), when(aNum(1), 5, 1)), false},
		{"a text that looks at itself", fieldsOf(aNum(1), when(aText(1), 1, 0)), false},
		{"two fields that look at each other", fieldsOf(when(aNum(1), 1, 0), when(aNum(1), 0, 0)), false},
		{"a field that looks at a later one", fieldsOf(when(aText(1), 1, 0), aNum(1)), false},
		{"a second field that looks at a later one", fieldsOf(aNum(1), when(aText(1), 2, 0), aNum(1)), false},
		{"a field that looks at the last one", fieldsOf(aNum(1), when(aText(1), 3, 0), aNum(1), aNum(1)), false},
		{"a field that looks beyond the list", fieldsOf(aNum(1), when(aText(1), 2, 0)), false},
		{"a field that looks far beyond the list", fieldsOf(aNum(1), when(aText(1), 7, 0)), false},
		{"a field that looks into the spare capacity", fieldsOf(aNum(1), when(aText(1), 2, 0), aNum(1))[:2], false},
		{"one below -1", fieldsOf(aNum(1), when(aText(1), -2, 0)), false},
		{"a first field with one below -1", fieldsOf(when(aNum(1), -2, 0)), false},
		{"the least int", fieldsOf(aNum(1), when(aText(1), math.MinInt, 0)), false},
		{"the greatest int", fieldsOf(aNum(1), when(aText(1), math.MaxInt, 0)), false},
		{"at a number", fieldsOf(aNum(1), when(aText(1), 0, 0)), true},
		{"at the number before", fieldsOf(aText(1), aNum(1), when(aText(1), 1, 0)), true},
		{"at a number further back", fieldsOf(aNum(1), aText(1), aList(1), when(aNum(1), 0, 1)), true},
		{"at a text", fieldsOf(aText(1), when(aNum(1), 0, 0)), false},
		{"at a text, with a number before", fieldsOf(aNum(1), aText(1), when(aNum(1), 1, 0)), false},
		{"at a list", fieldsOf(aList(1), when(aNum(1), 0, 0)), false},
		{"at a list, with a number before", fieldsOf(aNum(1), aList(1), when(aNum(1), 1, 0)), false},
		{"at a number with a condition", fieldsOf(aNum(1), when(aNum(1), 0, 1), when(aNum(1), 1, 1)), false},
		{"at the number behind one with a condition", fieldsOf(aNum(1), when(aNum(1), 0, 1), aNum(1), when(aNum(1), 2, 1)), true},
		{"at what one with a condition looks at", fieldsOf(aNum(1), when(aNum(1), 0, 1), when(aNum(1), 0, 1)), true},
		{"an Is of -1", fieldsOf(aNum(9), when(aText(1), 0, -1)), false},
		{"an Is of 0", fieldsOf(aNum(9), when(aText(1), 0, 0)), true},
		{"an Is of the Max", fieldsOf(aNum(9), when(aText(1), 0, 9)), true},
		{"an Is beyond the Max", fieldsOf(aNum(9), when(aText(1), 0, 10)), false},
		{"an Is beyond the field's own Max", fieldsOf(aNum(9), when(aText(1), 0, 5)), true},
		{"an Is of another number's Max", fieldsOf(aNum(9), aNum(1), when(aText(1), 1, 2)), false},
		{"an Is of MaxNum", fieldsOf(aNum(99), when(aNum(1), 0, 99)), true},
		{"an Is beyond MaxNum", fieldsOf(aNum(99), when(aNum(1), 0, 100)), false},
		{"the least Is", fieldsOf(aNum(99), when(aNum(1), 0, math.MinInt)), false},
		{"the greatest Is", fieldsOf(aNum(99), when(aNum(1), 0, math.MaxInt)), false},
		{"at a number that is no field of a format", fieldsOf(aNum(100), when(aNum(1), 0, 1)), false},
	}
	for _, c := range cases {
		t.Run(c.name, func(t *testing.T) { checkFormat(t, c.l, c.want) })
	}
}

// Every field of numbers about the limits is put behind formats of each length.
func TestFormatsWithAnyLastField(t *testing.T) {
	wrong := []impl.Field{aNum(9), aText(6)}
	for _, before := range append(someFormats(), nil, wrong) {
		all, conditions := bodies(), conditionsAfter(before)
		if len(before) == impl.MaxFields || slices.Equal(before, wrong) {
			clear(conditions)
		}
		for _, kind := range []int{math.MinInt, -1, 0, 1, 2, 3, 4, math.MaxInt} {
			for _, greatest := range []int{math.MinInt, -1, 0, 1, 5, 6, 99, 100, math.MaxInt} {
				for _, guard := range []int{math.MinInt, -2, -1, 0, 1, 2, 3, 4, 5, 6, 7, math.MaxInt} {
					for _, is := range []int{math.MinInt, -1, 0, 1, 2, 7, 8, 9, 10, 99, 100, math.MaxInt} {
						x := impl.Field{Kind: kind, Max: greatest, When: guard, Is: is}
						want := all[[2]int{kind, greatest}] && conditions[[2]int{guard, is}]
						checkFormat(t, append(slices.Clone(before), x), want)
					}
				}
			}
		}
	}
}

// eachChange calls use with copies of a list in which one number is another one.
func eachChange(l []impl.Field, use func(changed []impl.Field)) {
	for i := range l {
		for part := range 4 {
			for _, n := range someNumbers() {
				changed := slices.Clone(l)
				x := &changed[i]
				place := []*int{&x.Kind, &x.Max, &x.When, &x.Is}[part]
				if *place == n {
					continue
				}
				*place = n
				use(changed)
			}
		}
	}
}

func TestFormatsWithOneOtherNumber(t *testing.T) {
	for _, l := range someFormats() {
		eachChange(l, func(changed []impl.Field) {
			checkFormat(t, changed, isBuilt(changed))
		})
	}
}

func TestFormatsOfTheSameNumbers(t *testing.T) {
	for _, n := range someNumbers() {
		for size := range 8 {
			l := slices.Repeat(fieldsOf(impl.Field{Kind: n, Max: n, When: n, Is: n}), size)
			checkFormat(t, l, false)
		}
	}
}

// Other formats have other texts.
func TestFormatTextsDiffer(t *testing.T) {
	met := map[string][]impl.Field{}
	check := func(l []impl.Field) {
		s := impl.FormatText(l)
		if other, ok := met[s]; ok || s == "" {
			t.Errorf("FormatText(%v) is %q, as of %v", l, s, other)
		}
		met[s] = l
	}
	for body := range bodies() {
		first := impl.Field{Kind: body[0], Max: body[1], When: -1}
		check(fieldsOf(first))
		for c := range conditionsAfter(fieldsOf(first)) {
			for _, second := range fieldsOf(aNum(1), aNum(11), aText(1), aList(5)) {
				check(fieldsOf(first, when(second, c[0], c[1])))
			}
		}
	}
}

func TestEqualFormats(t *testing.T) {
	wild := fieldsOf(impl.Field{Kind: -7, Max: math.MaxInt, When: math.MinInt, Is: 3}, impl.Field{}, aNum(9))
	lists := append(someFormats(), nil, wild, wild[:1], wild[1:], slices.Repeat(wild, 10))
	for i, a := range lists {
		for k, b := range lists {
			// Also a list that is no format has only equals that are alike in every number.
			if got := impl.EqualFormats(a, slices.Clone(b)); got != (i == k) {
				t.Errorf("EqualFormats(%v, %v) is %v", a, b, got)
			}
		}
		eachChange(a, func(changed []impl.Field) {
			if impl.EqualFormats(a, changed) || impl.EqualFormats(changed, a) {
				t.Errorf("EqualFormats(%v, %v) is true", a, changed)
			}
		})
		for n := range a {
			if impl.EqualFormats(a, a[:n]) || impl.EqualFormats(a[:n], a) {
				t.Errorf("EqualFormats(%v, %v) is true", a, a[:n])
			}
		}
		longer := append(slices.Clone(a), impl.Field{})
		if impl.EqualFormats(a, longer) || impl.EqualFormats(longer, a) {
			t.Errorf("EqualFormats(%v, %v) is true", a, longer)
		}
	}
	if !impl.EqualFormats(nil, []impl.Field{}) || !impl.EqualFormats([]impl.Field{}, nil) || !impl.EqualFormats(nil, nil) || !impl.EqualFormats(wild[:0], nil) {
		t.Error("lists of no field are not equal")
	}
	if impl.EqualFormats(fieldsOf(aNum(1), aText(1)), fieldsOf(aText(1), aNum(1))) {
		t.Error("the order does not count")
	}
	if !impl.EqualFormats(make([]impl.Field, 2, 9), make([]impl.Field, 2)) {
		t.Error("capacities count")
	}
}

func TestGuardsOf(t *testing.T) {
	at := func(guards ...int) []impl.Field {
		var l []impl.Field
		for i, guard := range guards {
			l = append(l, impl.Field{Kind: i % 5, Max: i * 40, When: guard, Is: i})
		}
		return l
	}
	cases := []struct {
		l    []impl.Field
		want []int
	}{
		{nil, nil},
		{[]impl.Field{}, nil},
		{fieldsOf(aNum(1)), nil},
		{fieldsOf(aNum(1), aText(2), aList(3)), nil},
		{fieldsOf(aNum(9), when(aText(3), 0, 2), aList(2)), []int{0}},
		{fieldsOf(aNum(9), when(aText(3), 0, 2), when(aList(2), 0, 2)), []int{0}},
		{fieldsOf(aNum(9), when(aText(3), 0, 2), aNum(1), when(aList(2), 0, 3)), []int{0}},
		{fieldsOf(aNum(9), aNum(8), when(aText(3), 1, 2), when(aList(2), 0, 3)), []int{0, 1}},
		{fieldsOf(aNum(9), aNum(8), aNum(7), when(aText(3), 2, 2), when(aList(2), 0, 3), when(aNum(2), 2, 0)), []int{0, 2}},
		// The list need not be a format.
		{at(-1), nil},
		{at(0), []int{0}},
		{at(-2), []int{-2}},
		{at(5, 3, 5, -1, 3, 4), []int{3, 4, 5}},
		{at(3, 2, 1, 0, -1, -2, -3), []int{-3, -2, 0, 1, 2, 3}},
		{at(math.MaxInt, -1, math.MinInt, 7, math.MinInt, 0, math.MaxInt), []int{math.MinInt, 0, 7, math.MaxInt}},
		{at(-1, -1, -1, -1, -1, -1, -1, -1), nil},
		{make([]impl.Field, 7), []int{0}},
		// What lies in the spare capacity is not part of the list.
		{at(4, 2, 1, 0)[:2], []int{2, 4}},
		{at(4, 2, 1, 0)[:0], nil},
	}
	for _, c := range cases {
		if got := impl.GuardsOf(c.l); !slices.Equal(got, c.want) {
			t.Errorf("GuardsOf(%v) is %v, not %v", c.l, got, c.want)
		}
	}
	for _, size := range []int{100, 1000, 20000} {
		var guards []int
		for i := range size {
			guards = append(guards, i*7919%size%(size/2)-5)
		}
		var want []int
		for n := -5; n < size/2-5; n++ {
			if n != -1 {
				want = append(want, n)
			}
		}
		if got := impl.GuardsOf(at(guards...)); !slices.Equal(got, want) {
			t.Errorf("GuardsOf of %d fields is wrong", size)
		}
	}
}

func TestFormatsKeepFields(t *testing.T) {
	mark := impl.Field{Kind: 77, Max: 78, When: 79, Is: 80}
	lists := append(someFormats(), nil, fieldsOf(when(aNum(1), 0, 0)), fieldsOf(aList(6), when(aNum(1), 5, 0), when(aNum(1), -4, 0), when(aNum(1), 5, 1)))
	for _, l := range lists {
		l := append(slices.Clone(l), slices.Repeat(fieldsOf(mark), 20)...)[:len(l)]
		before := slices.Clone(whole(l))
		impl.IsFormat(l)
		impl.FormatText(l)
		impl.EqualFormats(l, lists[0])
		impl.EqualFormats(lists[0], l)
		impl.EqualFormats(l, l)
		first, second := impl.GuardsOf(l), impl.GuardsOf(l)
		want := slices.Clone(whole(second))
		for i := range whole(first) {
			whole(first)[i] += 1000
		}
		if !slices.Equal(whole(second), want) {
			t.Errorf("GuardsOf: results for %v share memory", l)
		}
		if !slices.Equal(whole(l), before) {
			t.Errorf("a list is changed to %v from %v", whole(l), before)
		}
	}
}
