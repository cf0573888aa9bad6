package tests

import (
	"fmt"
	"math"
	"slices"
	"strings"
	"testing"

	"loop.example/g03000/impl"
)

// Promise 5: fields that are not there are empty (chapter 5).

// Short words for the values of the tables.
func num(n int) impl.Value               { return impl.Value{Num: n} }
func items(list ...int) impl.Value       { return impl.Value{Items: list} }
func both(n int, list ...int) impl.Value { return impl.Value{Num: n, Items: list} }

func valuesOf(values ...impl.Value) []impl.Value {
	return values
}

// guarded is the format of the document's example: a number, a text that is there
// only with the number 2, and a list.
func guarded() []impl.Field {
	return fieldsOf(aNum(9), when(aText(3), 0, 2), aList(2))
}

func TestIsThere(t *testing.T) {
	l := guarded()
	late := fieldsOf(aNum(9), aText(1), aNum(5), when(aList(1), 2, 3))
	cases := []struct {
		name string
		l    []impl.Field
		m    []impl.Value
		i    int
		want bool
	}{
		{"an index of -1", l, valuesOf(num(2), items(1), items(1)), -1, false},
		{"an index of 0", l, valuesOf(num(2), items(1), items(1)), 0, true},
		{"the last index", l, valuesOf(num(2), items(1), items(1)), 2, true},
		{"an index beyond the last", l, valuesOf(num(2), items(1), items(1)), 3, false},
		{"an index beyond the fields, with a value", l, valuesOf(num(2), num(2), num(2), num(2)), 3, false},
		{"an index into the spare capacity", l[:2], valuesOf(num(2), items(1), items(1)), 2, false},
		{"the least index", l, valuesOf(num(2), items(1), items(1)), math.MinInt, false},
		{"the greatest index", l, valuesOf(num(2), items(1), items(1)), math.MaxInt, false},
		{"an index of 0 in no fields", nil, valuesOf(num(2)), 0, false},
		{"an index of -1 in no fields", nil, nil, -1, false},
		{"a When of -1 without values", l, nil, 0, true},
		{"a When of -1 at the end, without values", l, nil, 2, true},
		{"a When of -1 with a wrong value", l, valuesOf(num(-7), num(5), both(4, 300)), 2, true},
		{"the number Is", l, valuesOf(num(2), num(0), num(0)), 1, true},
		{"the number Is and Items", l, valuesOf(both(2, 7), num(0), num(0)), 1, true},
		{"the number Is alone", l, valuesOf(num(2)), 1, true},
		{"the number Is with too many values", l, valuesOf(num(2), num(0), num(0), num(0), num(0)), 1, true},
		{"one less than Is", l, valuesOf(num(1), num(2), num(2)), 1, false},
		{"one more than Is", l, valuesOf(num(3), num(2), num(2)), 1, false},
		{"the Is among the Items", l, valuesOf(items(2), num(2), num(2)), 1, false},
		{"the least number", l, valuesOf(num(math.MinInt)), 1, false},
		{"the greatest number", l, valuesOf(num(math.MaxInt)), 1, false},
		{"no value at all", l, nil, 1, false},
		{"no value, an empty list", l, []impl.Value{}, 1, false},
		{"a value in the spare capacity", l, valuesOf(num(2), num(0))[:0], 1, false},
		{"a later number Is", late, valuesOf(num(0), num(0), num(3)), 3, true},
		{"a later number Is, in a longer list", late, valuesOf(num(0), num(0), num(3), num(9), num(9), num(9)), 3, true},
		{"a later number is not Is", late, valuesOf(num(3), num(3), num(2), num(3)), 3, false},
		{"no value for a later number", late, valuesOf(num(3), num(3)), 3, false},
		{"an Is of 0", fieldsOf(aNum(9), when(aText(1), 0, 0)), valuesOf(num(0)), 1, true},
		{"an Is of 0, no value", fieldsOf(aNum(9), when(aText(1), 0, 0)), nil, 1, false},
		{"an Is of 0, another number", fieldsOf(aNum(9), when(aText(1), 0, 0)), valuesOf(num(1)), 1, false},
		{"another field's condition", fieldsOf(aNum(9), when(aText(1), 0, 1), when(aText(1), 0, 2)), valuesOf(num(1)), 2, false},
		// The list need not be a format.
		{"a When below -1", fieldsOf(aNum(9), when(aText(1), -2, 0)), valuesOf(num(0), num(0)), 1, false},
		{"the least When", fieldsOf(when(aText(1), math.MinInt, 0)), valuesOf(num(0)), 0, false},
		{"the greatest When", fieldsOf(when(aText(1), math.MaxInt, 0)), valuesOf(num(0)), 0, false},
		{"a When of the field itself", fieldsOf(when(aNum(1), 0, 1)), valuesOf(num(1)), 0, true},
		{"a When of the field itself, not Is", fieldsOf(when(aNum(1), 0, 1)), valuesOf(num(0)), 0, false},
		{"a When of a later field", fieldsOf(when(aNum(1), 1, 1), aNum(1)), valuesOf(num(0), num(1)), 0, true},
		{"a When beyond the fields, with a value", fieldsOf(when(aNum(1), 2, 5)), valuesOf(num(0), num(0), num(5)), 0, true},
		{"a When beyond the values", fieldsOf(when(aNum(1), 3, 0)), valuesOf(num(0), num(0), num(0)), 0, false},
		{"a When of a text", fieldsOf(aText(1), when(aNum(1), 0, 4)), valuesOf(num(4)), 1, true},
		{"a When of a field that is not there", fieldsOf(aNum(1), when(aNum(1), 0, 1), when(aNum(1), 1, 0)), valuesOf(num(0), num(0), num(0)), 2, true},
		{"an Is with a When of -1", fieldsOf(when(aNum(1), -1, 7)), valuesOf(num(0)), 0, true},
		{"the least Is", fieldsOf(when(aNum(1), 0, math.MinInt)), valuesOf(num(math.MinInt)), 0, true},
		{"the greatest Is", fieldsOf(when(aNum(1), 0, math.MaxInt)), valuesOf(num(math.MaxInt)), 0, true},
		{"the least Is, the greatest number", fieldsOf(when(aNum(1), 0, math.MinInt)), valuesOf(num(math.MaxInt)), 0, false},
		{"a kind that is none", fieldsOf(impl.Field{Kind: 9, When: -1}), nil, 0, true},
		{"the zero Field", make([]impl.Field, 1), valuesOf(num(0)), 0, true},
		{"the zero Field without values", make([]impl.Field, 1), nil, 0, false},
	}
	for _, c := range cases {
		if got := impl.IsThere(c.l, c.m, c.i); got != c.want {
			t.Errorf("%s: IsThere(%v, %v, %d) is %v", c.name, c.l, c.m, c.i, got)
		}
	}
}

// Whether a field is there depends on its When, its Is and one number alone.
func TestIsThereWithAnyNumbers(t *testing.T) {
	for _, guard := range someNumbers() {
		for _, is := range someNumbers() {
			l := fieldsOf(aNum(9), aNum(9), impl.Field{Kind: is, Max: guard, When: guard, Is: is})
			for _, n := range someNumbers() {
				for size := range 6 {
					m := slices.Repeat(valuesOf(num(n)), size)
					want := guard == -1 || guard >= 0 && guard < size && n == is
					if got := impl.IsThere(l, m, 2); got != want {
						t.Fatalf("IsThere(%v, %v, 2) is %v", l, m, got)
					}
					for _, i := range []int{math.MinInt, -2, -1, 3, 4, 1 << 32, 1<<32 + 2, math.MaxInt} {
						if impl.IsThere(l, m, i) {
							t.Fatalf("IsThere(%v, %v, %d) is true", l, m, i)
						}
					}
				}
			}
		}
	}
}

// atMost is a field that a format does not have: only its kind and its Max count.
func atMost(kind int, greatest int) impl.Field {
	return impl.Field{Kind: kind, Max: greatest, When: 33, Is: -44}
}

func TestFitsField(t *testing.T) {
	cases := []struct {
		name string
		x    impl.Field
		v    impl.Value
		want bool
	}{
		{"a number of -1", aNum(9), num(-1), false},
		{"a number of 0", aNum(9), num(0), true},
		{"a number between", aNum(9), num(5), true},
		{"a number of Max", aNum(9), num(9), true},
		{"a number of Max and one more", aNum(9), num(10), false},
		{"a number of 1 with a Max of 1", aNum(1), num(1), true},
		{"a number of 2 with a Max of 1", aNum(1), num(2), false},
		{"a number of MaxNum", aNum(99), num(99), true},
		{"a number beyond MaxNum", aNum(99), num(100), false},
		{"the least number", aNum(99), num(math.MinInt), false},
		{"the greatest number", aNum(99), num(math.MaxInt), false},
		{"a number with an Item", aNum(9), both(5, 1), false},
		{"a number of 0 with an Item of 0", aNum(9), items(0), false},
		{"a number with Items", aNum(9), both(5, 1, 2, 3), false},
		{"a number with empty Items", aNum(9), both(5, []int{}...), true},
		{"a number with Items in the spare capacity", aNum(9), impl.Value{Num: 5, Items: []int{1, 2}[:0]}, true},
		{"a text of no bytes", aText(3), num(0), true},
		{"a text of empty Items", aText(3), impl.Value{Items: []int{}}, true},
		{"a text of one byte", aText(3), items(97), true},
		{"a text of Max bytes", aText(3), items(97, 0, 255), true},
		{"a text of Max bytes and one more", aText(3), items(97, 98, 99, 100), false},
		{"a text of MaxLen bytes", aText(5), items(1, 2, 3, 4, 5), true},
		{"a text beyond MaxLen", aText(5), items(1, 2, 3, 4, 5, 6), false},
		{"a text with a Num of 1", aText(3), num(1), false},
		{"a text with a Num of -1", aText(3), num(-1), false},
		{"a text with a Num of its length", aText(3), both(2, 97, 98), false},
		{"a text with the least Num", aText(3), num(math.MinInt), false},
		{"a text with the greatest Num", aText(3), both(math.MaxInt, 97), false},
		{"a byte of -1", aText(3), items(-1), false},
		{"a byte of 0", aText(3), items(0), true},
		{"a byte of 100", aText(3), items(100), true},
		{"a byte of 255", aText(3), items(255), true},
		{"a byte of 256", aText(3), items(256), false},
		{"a byte of 256 behind others", aText(3), items(1, 2, 256), false},
		{"a byte of 256 before others", aText(3), items(256, 2, 1), false},
		{"the least byte", aText(3), items(1, math.MinInt), false},
		{"the greatest byte", aText(3), items(math.MaxInt, 1), false},
		{"a list of no numbers", aList(2), num(0), true},
		{"a list of one number", aList(2), items(5), true},
		{"a list of Max numbers", aList(2), items(5, 99), true},
		{"a list of Max numbers and one more", aList(2), items(1, 2, 3), false},
		{"a list of MaxLen numbers", aList(5), items(1, 2, 3, 4, 5), true},
		{"a list beyond MaxLen", aList(5), items(1, 2, 3, 4, 5, 6), false},
		{"a list with a Num of 1", aList(2), num(1), false},
		{"a list with a Num of -1", aList(2), both(-1, 5), false},
		{"a list with the least Num", aList(2), num(math.MinInt), false},
		{"a list with the greatest Num", aList(2), num(math.MaxInt), false},
		{"an item of -1", aList(2), items(-1), false},
		{"an item of 0", aList(2), items(0), true},
		{"an item of MaxNum", aList(2), items(99), true},
		{"an item beyond MaxNum", aList(2), items(100), false},
		{"an item of 255", aList(2), items(255), false},
		{"an item of 100 behind another", aList(2), items(99, 100), false},
		{"the least item", aList(2), items(math.MinInt), false},
		{"the greatest item", aList(2), items(1, math.MaxInt), false},
		// The field need not be one of a format.
		{"the zero Field", impl.Field{}, impl.Value{}, false},
		{"a kind of 4", atMost(4, 9), num(0), false},
		{"a kind of -1", atMost(-1, 9), num(0), false},
		{"a kind of 4 with an Item", atMost(4, 9), items(1), false},
		{"the least kind", atMost(math.MinInt, 9), num(0), false},
		{"the greatest kind", atMost(math.MaxInt, 9), num(0), false},
		{"a number, whatever its condition", atMost(impl.FkNum, 9), num(9), true},
		{"a number with a Max of 0", atMost(impl.FkNum, 0), num(0), true},
		{"a number of 1 with a Max of 0", atMost(impl.FkNum, 0), num(1), false},
		{"a number with a Max of -1", atMost(impl.FkNum, -1), num(0), false},
		{"a number of -1 with a Max of -1", atMost(impl.FkNum, -1), num(-1), false},
		{"a number with the least Max", atMost(impl.FkNum, math.MinInt), num(0), false},
		{"a number with a Max beyond MaxNum", atMost(impl.FkNum, 1000), num(1000), true},
		{"the greatest number with the greatest Max", atMost(impl.FkNum, math.MaxInt), num(math.MaxInt), true},
		{"a text with a Max of 0", atMost(impl.FkText, 0), num(0), true},
		{"a text of one byte with a Max of 0", atMost(impl.FkText, 0), items(1), false},
		{"a text with a Max of -1", atMost(impl.FkText, -1), num(0), false},
		{"a text with the least Max", atMost(impl.FkText, math.MinInt), num(0), false},
		{"a text with a Max beyond MaxLen", atMost(impl.FkText, 6), items(1, 2, 3, 4, 5, 255), true},
		{"a text with the greatest Max", atMost(impl.FkText, math.MaxInt), items(1, 2, 3), true},
		{"a list with a Max of 0", atMost(impl.FkList, 0), num(0), true},
		{"a list of one number with a Max of 0", atMost(impl.FkList, 0), items(1), false},
		{"a list with a Max of -1", atMost(impl.FkList, -1), num(0), false},
		{"a list with the least Max", atMost(impl.FkList, math.MinInt), num(0), false},
		{"a list with a Max beyond MaxLen", atMost(impl.FkList, 6), items(1, 2, 3, 4, 5, 99), true},
		{"a list with the greatest Max", atMost(impl.FkList, math.MaxInt), items(1, 2, 100), false},
	}
	for _, c := range cases {
		if got := impl.FitsField(c.x, c.v); got != c.want {
			t.Errorf("%s: FitsField(%v, %v) is %v", c.name, c.x, c.v, got)
		}
	}
}

// isValueOf says by another way than the program's whether a value fits a field: it
// asks for the extremes of the numbers.
func isValueOf(x impl.Field, v impl.Value) bool {
	greatest := map[int]int{2: 255, 3: 99}[x.Kind]
	switch {
	case x.Kind < 1 || x.Kind > 3:
		return false
	case x.Kind == 1:
		return len(v.Items) == 0 && v.Num >= 0 && v.Num <= x.Max
	case len(v.Items) == 0:
		return v.Num == 0 && x.Max >= 0
	}
	return v.Num == 0 && len(v.Items) <= x.Max && slices.Min(v.Items) >= 0 && slices.Max(v.Items) <= greatest
}

// candidates returns values of all kinds, right and wrong ones.
func candidates() []impl.Value {
	all := valuesOf(both(1, 1), both(-1, 0), both(9, 255), both(2, 0, 0), both(math.MaxInt, math.MinInt))
	for _, n := range append(someNumbers(), 8, 9, 10) {
		all = append(all, num(n))
	}
	for _, n := range append(someNumbers(), 97, 254, 255, 256, 257) {
		all = append(all, items(n), items(0, n), items(n, 0, 1))
	}
	for n := range 8 {
		all = append(all, items(make([]int, n)...), items(slices.Repeat([]int{99}, n)...), items(slices.Repeat([]int{255}, n)...))
	}
	return append(all, items(slices.Repeat([]int{7}, 10000)...))
}

func TestFitsFieldWithAnyValue(t *testing.T) {
	for _, kind := range append(someNumbers(), 1<<32+2, 1<<32+3) {
		for _, greatest := range append(someNumbers(), 10000) {
			x := atMost(kind, greatest)
			for _, v := range candidates() {
				if got := impl.FitsField(x, v); got != isValueOf(x, v) {
					t.Errorf("FitsField(%v, %.40v) is %v", x, fmt.Sprint(v), got)
				}
			}
		}
	}
}

func TestFitsFieldWithEveryItem(t *testing.T) {
	for n := -600; n <= 600; n++ {
		for place := range 3 {
			list := []int{0, 0, 0}
			list[place] = n
			if got := impl.FitsField(aText(3), items(list...)); got != (n >= 0 && n <= 255) {
				t.Errorf("a text with the byte %d at %d: %v", n, place, got)
			}
			if got := impl.FitsField(aList(3), items(list...)); got != (n >= 0 && n <= 99) {
				t.Errorf("a list with the number %d at %d: %v", n, place, got)
			}
		}
		if got := impl.FitsField(aNum(77), num(n)); got != (n >= 0 && n <= 77) {
			t.Errorf("the number %d: %v", n, got)
		}
	}
}

func TestFitsFormat(t *testing.T) {
	l := guarded()
	cases := []struct {
		name string
		l    []impl.Field
		m    []impl.Value
		want bool
	}{
		{"all fields there", l, valuesOf(num(2), items(97, 255), items(5)), true},
		{"all fields there, empty", l, valuesOf(num(2), num(0), num(0)), true},
		{"a field not there, the zero Value", l, valuesOf(num(1), impl.Value{}, num(0)), true},
		{"a field not there, empty Items", l, valuesOf(num(1), impl.Value{Items: []int{}}, num(0)), true},
		{"a field not there, Items in the spare capacity", l, valuesOf(num(1), impl.Value{Items: []int{7}[:0]}, num(0)), true},
		{"a field not there, a Num", l, valuesOf(num(1), num(1), num(0)), false},
		{"a field not there, a Num of -1", l, valuesOf(num(1), num(-1), num(0)), false},
		{"a field not there, the least Num", l, valuesOf(num(1), num(math.MinInt), num(0)), false},
		{"a field not there, the greatest Num", l, valuesOf(num(1), num(math.MaxInt), num(0)), false},
		{"a field not there, an Item", l, valuesOf(num(1), items(97), num(0)), false},
		{"a field not there, an Item of 0", l, valuesOf(num(1), items(0), num(0)), false},
		{"a field not there, Items", l, valuesOf(num(3), items(1, 2), items(5)), false},
		{"a field not there, a Num and Items", l, valuesOf(num(3), both(2, 1), items(5)), false},
		{"a number not there, the zero Value", fieldsOf(aNum(1), when(aNum(5), 0, 1)), valuesOf(num(0), num(0)), true},
		{"a number not there, a Num that would fit", fieldsOf(aNum(1), when(aNum(5), 0, 1)), valuesOf(num(0), num(5)), false},
		{"a number there, a Num that fits", fieldsOf(aNum(1), when(aNum(5), 0, 1)), valuesOf(num(1), num(5)), true},
		{"a list not there, the zero Value", fieldsOf(aNum(1), when(aList(5), 0, 0)), valuesOf(num(1), num(0)), true},
		{"a list not there, Items that would fit", fieldsOf(aNum(1), when(aList(5), 0, 0)), valuesOf(num(1), items(5)), false},
		{"a list there, Items that fit", fieldsOf(aNum(1), when(aList(5), 0, 0)), valuesOf(num(0), items(5)), true},
		{"the last field not there, an Item", fieldsOf(aNum(9), aList(2), when(aText(3), 0, 2)), valuesOf(num(1), items(5), items(0)), false},
		{"the last field not there, empty", fieldsOf(aNum(9), aList(2), when(aText(3), 0, 2)), valuesOf(num(1), items(5), num(0)), true},
		{"one of two fields there", fieldsOf(aNum(1), when(aText(1), 0, 0), when(aText(1), 0, 1)), valuesOf(num(1), num(0), items(7)), true},
		{"the other of two fields filled", fieldsOf(aNum(1), when(aText(1), 0, 0), when(aText(1), 0, 1)), valuesOf(num(1), items(7), num(0)), false},
		{"both of two fields filled", fieldsOf(aNum(1), when(aText(1), 0, 0), when(aText(1), 0, 1)), valuesOf(num(1), items(7), items(7)), false},
		{"no value", l, nil, false},
		{"one value too few", l, valuesOf(num(2), items(97)), false},
		{"one value too few, the field not there", fieldsOf(aNum(9), when(aText(3), 0, 2)), valuesOf(num(1)), false},
		{"one value too many", l, valuesOf(num(2), items(97), items(5), num(0)), false},
		{"the last value in the spare capacity", l, valuesOf(num(2), items(97), items(5))[:2], false},
		{"a number too great", l, valuesOf(num(10), num(0), num(0)), false},
		{"a number below 0", l, valuesOf(num(-1), num(0), num(0)), false},
		{"a number with an Item", l, valuesOf(both(2, 1), num(0), num(0)), false},
		{"a text with a Num", l, valuesOf(num(2), num(1), num(0)), false},
		{"a text too long", l, valuesOf(num(2), items(1, 2, 3, 4), num(0)), false},
		{"a text with 256", l, valuesOf(num(2), items(256), num(0)), false},
		{"a list with a Num", l, valuesOf(num(2), num(0), num(1)), false},
		{"a list too long", l, valuesOf(num(2), num(0), items(1, 2, 3)), false},
		{"a list with 100", l, valuesOf(num(2), num(0), items(100)), false},
		{"no format, no field", nil, nil, false},
		{"no format, no field, a value", []impl.Field{}, valuesOf(num(0)), false},
		{"no format, seven fields", slices.Repeat(fieldsOf(aNum(1)), 7), slices.Repeat(valuesOf(num(0)), 7), false},
		{"a format, six fields", slices.Repeat(fieldsOf(aNum(1)), 6), slices.Repeat(valuesOf(num(0)), 6), true},
		{"no format, a Max of 0", fieldsOf(aNum(0)), valuesOf(num(0)), false},
		{"no format, a Max of 100", fieldsOf(aNum(100)), valuesOf(num(0)), false},
		{"no format, a text with a Max of 6", fieldsOf(aText(6)), valuesOf(num(0)), false},
		{"no format, a kind that is none", fieldsOf(aNum(1), impl.Field{Kind: 4, Max: 1, When: 0, Is: 1}), valuesOf(num(0), num(0)), false},
		{"no format, the zero Field", make([]impl.Field, 1), make([]impl.Value, 1), false},
		{"no format, an Is beyond the number", fieldsOf(aNum(9), when(aText(1), 0, 10)), valuesOf(num(0), num(0)), false},
		{"no format, a field that looks at itself", fieldsOf(when(aNum(1), 0, 0)), valuesOf(num(0)), false},
		{"no format, a When below -1", fieldsOf(aNum(1), when(aText(1), -2, 0)), valuesOf(num(0), num(0)), false},
		{"no format, an Is with a When of -1", fieldsOf(when(aNum(9), -1, 1)), valuesOf(num(1)), false},
		{"no format, a condition on one that has one", fieldsOf(aNum(1), when(aNum(1), 0, 0), when(aNum(1), 1, 0)), valuesOf(num(0), num(0), num(0)), false},
	}
	for _, c := range cases {
		if got := impl.FitsFormat(c.l, c.m); got != c.want {
			t.Errorf("%s: FitsFormat(%v, %v) is %v", c.name, c.l, c.m, got)
		}
	}
}

// choicesFor returns values that fit the field i: the numbers that conditions ask
// for, without which some fields would be there in no message, and a few candidates.
func choicesFor(l []impl.Field, i int, few int) []impl.Value {
	choices := valuesOf()
	for _, x := range l {
		if x.When == i {
			choices = append(choices, num(x.Is))
		}
	}
	for _, v := range candidates() {
		if few > 0 && isValueOf(l[i], v) {
			choices = append(choices, v)
			few--
		}
	}
	return choices
}

// fillings builds messages of a format, field after field, with the zero Value where
// a field is not there.
func fillings(l []impl.Field, few int) [][]impl.Value {
	all := [][]impl.Value{nil}
	for i, x := range l {
		var longer [][]impl.Value
		for _, m := range all {
			choices := valuesOf(impl.Value{})
			if x.When == -1 || m[x.When].Num == x.Is {
				choices = choicesFor(l, i, few)
			}
			for _, v := range choices {
				longer = append(longer, append(slices.Clone(m), v))
			}
		}
		all = longer
	}
	return all
}

// aboutForty leaves out all but every so many of the messages.
func aboutForty(messages [][]impl.Value) [][]impl.Value {
	var some [][]impl.Value
	for i := 0; i < len(messages); i += len(messages)/40 + 1 {
		some = append(some, messages[i])
	}
	return some
}

// isFilling says by another way than the program's whether a message is one of a
// format: it writes down the numbers as they come and takes each field that is not
// there for one whose value is printed as nothing.
func isFilling(l []impl.Field, m []impl.Value) bool {
	if len(m) != len(l) {
		return false
	}
	numbers := map[int]int{}
	for i, v := range m {
		guard, ok := numbers[l[i].When]
		there := l[i].When == -1 || ok && guard == l[i].Is
		if there && !isValueOf(l[i], v) || !there && fmt.Sprint(v) != "{0 []}" {
			return false
		}
		numbers[i] = v.Num
	}
	return true
}

func TestFitsFormatWithAnyValue(t *testing.T) {
	check := func(l []impl.Field, m []impl.Value, want bool) {
		if got := impl.FitsFormat(l, m); got != want {
			t.Errorf("FitsFormat(%v, %.80v) is %v", l, fmt.Sprint(m), got)
		}
	}
	for _, l := range someFormats() {
		all := aboutForty(fillings(l, 3))
		for _, m := range all {
			check(l, m, true)
			check(l, m[:len(m)-1], false)
			check(l, append(slices.Clone(m), impl.Value{}), false)
			check(l, append(valuesOf(impl.Value{}), m...), false)
			for i := range m {
				for _, v := range candidates() {
					changed := slices.Clone(m)
					changed[i] = v
					check(l, changed, isFilling(l, changed))
				}
			}
		}
		m := all[0]
		eachChange(l, func(changed []impl.Field) {
			check(changed, m, isBuilt(changed) && isFilling(changed, m))
		})
	}
}

// A field that is not there has no other value than the empty one, in any message.
func TestFieldsNotThereAreEmpty(t *testing.T) {
	for _, hidden := range fieldsOf(aNum(1), aNum(99), aText(1), aText(5), aList(1), aList(5)) {
		for is := range 4 {
			l := fieldsOf(aNum(3), aText(1), when(hidden, 0, is), aNum(1))
			for n := range 4 {
				for _, v := range candidates() {
					m := valuesOf(num(n), items(7), v, num(1))
					want := v.Num == 0 && len(v.Items) == 0
					if n == is {
						want = isValueOf(hidden, v)
					}
					if got := impl.FitsFormat(l, m); got != want {
						t.Errorf("FitsFormat(%v, %.80v) is %v", l, fmt.Sprint(m), got)
					}
					wantCount := 3
					if n == is {
						wantCount = 4
					}
					if got := impl.ThereCount(l, m); got != wantCount {
						t.Errorf("ThereCount(%v, %.80v) is %d", l, fmt.Sprint(m), got)
					}
				}
			}
		}
	}
}

// someMessages returns lists of values that are all different.
func someMessages() [][]impl.Value {
	return [][]impl.Value{
		nil,
		{num(0)}, {num(0), num(0)}, {num(0), num(0), num(0)},
		{num(1)}, {num(-1)}, {num(math.MaxInt)}, {num(math.MinInt)},
		{items(0)}, {items(1)}, {items(0, 0)}, {items(0, 1)}, {items(1, 0)}, {items(0, 0, 0)}, {both(1, 1)}, {both(1, 0)}, {both(2, 1)},
		{num(1), num(2)}, {num(2), num(1)}, {items(1, 2)}, {items(1), items(2)}, {num(0), items(1)}, {items(1), num(0)},
		{num(2), items(97, 255), items(5)}, {num(2), items(97, 255), items(6)}, {num(2), items(97, 254), items(5)}, {num(3), items(97, 255), items(5)},
		{num(2), items(97), items(5)}, {num(2), items(97, 255, 5), num(0)}, {num(2), items(97, 255), items(5), num(0)},
		{both(math.MinInt, math.MaxInt, math.MinInt)}, {both(math.MaxInt, math.MinInt, math.MaxInt)},
	}
}

func cloneMessage(m []impl.Value) []impl.Value {
	out := []impl.Value{}
	for _, v := range m {
		out = append(out, both(v.Num, slices.Clone(v.Items)...))
	}
	return out
}

func TestEqualMessages(t *testing.T) {
	differ := func(a, b []impl.Value) {
		if impl.EqualMessages(a, b) || impl.EqualMessages(b, a) {
			t.Errorf("EqualMessages(%v, %v) is true", a, b)
		}
	}
	for i, a := range someMessages() {
		for k, b := range someMessages() {
			if got := impl.EqualMessages(a, b); got != (i == k) {
				t.Errorf("EqualMessages(%v, %v) is %v", a, b, got)
			}
		}
		if !impl.EqualMessages(a, cloneMessage(a)) || !impl.EqualMessages(a, a) {
			t.Errorf("EqualMessages(%v, a copy) is false", a)
		}
		for n := range a {
			differ(a, a[:n])
			for _, delta := range []int{1, -1, 256, 1 << 32, math.MinInt} {
				changed := cloneMessage(a)
				changed[n].Num += delta
				differ(a, changed)
				for j := range a[n].Items {
					changed := cloneMessage(a)
					changed[n].Items[j] += delta
					differ(a, changed)
				}
			}
			for j := range a[n].Items {
				changed := cloneMessage(a)
				changed[n].Items = changed[n].Items[:j]
				differ(a, changed)
			}
			changed := cloneMessage(a)
			changed[n].Items = append(changed[n].Items, 0)
			differ(a, changed)
		}
		differ(a, append(cloneMessage(a), impl.Value{}))
	}
}

func TestEqualMessagesWithNothing(t *testing.T) {
	empty := valuesOf(num(1), impl.Value{Items: []int{}}, impl.Value{Items: []int{4}[:0]})
	cases := []struct{ a, b []impl.Value }{
		{nil, []impl.Value{}},
		{nil, nil},
		{[]impl.Value{}, []impl.Value{}},
		{nil, valuesOf(num(3))[:0]},
		{valuesOf(num(1), num(0), num(0)), empty},
		{empty, empty},
		{make([]impl.Value, 2, 9), make([]impl.Value, 2)},
		{valuesOf(impl.Value{Items: make([]int, 2, 9)}), valuesOf(items(0, 0))},
		{valuesOf(num(1), num(2))[:1], valuesOf(num(1), num(3))[:1]},
		{valuesOf(impl.Value{Items: []int{1, 2}[:1]}), valuesOf(impl.Value{Items: []int{1, 3}[:1]})},
	}
	for _, c := range cases {
		if !impl.EqualMessages(c.a, c.b) || !impl.EqualMessages(c.b, c.a) {
			t.Errorf("EqualMessages(%v, %v) is false", c.a, c.b)
		}
	}
}

func TestMessageText(t *testing.T) {
	cases := []struct {
		m    []impl.Value
		want string
	}{
		{nil, "-"},
		{[]impl.Value{}, "-"},
		{valuesOf(num(1))[:0], "-"},
		{valuesOf(num(0)), "0"},
		{valuesOf(num(7)), "7"},
		{valuesOf(num(-7)), "-7"},
		{valuesOf(num(99)), "99"},
		{valuesOf(num(math.MaxInt)), "9223372036854775807"},
		{valuesOf(num(math.MinInt)), "-9223372036854775808"},
		{valuesOf(impl.Value{Items: []int{}}), "0"},
		{valuesOf(impl.Value{Num: 4, Items: []int{}}), "4"},
		{valuesOf(impl.Value{Num: 4, Items: []int{5}[:0]}), "4"},
		{valuesOf(items(5)), "5"},
		{valuesOf(items(0)), "0"},
		{valuesOf(items(-5)), "-5"},
		{valuesOf(items(97, 255)), "97.255"},
		{valuesOf(items(1, 2, 3, 4, 5)), "1.2.3.4.5"},
		{valuesOf(items(0, 0)), "0.0"},
		{valuesOf(items(-1, -2)), "-1.-2"},
		{valuesOf(items(math.MinInt, math.MaxInt)), "-9223372036854775808.9223372036854775807"},
		// The Num of a value that has Items is not shown.
		{valuesOf(both(4, 5)), "5"},
		{valuesOf(both(4, 5, 6)), "5.6"},
		{valuesOf(both(-4, 0)), "0"},
		{valuesOf(num(1), num(0), num(0)), "1 0 0"},
		{valuesOf(num(2), items(97, 255), items(5)), "2 97.255 5"},
		{valuesOf(items(1, 2), num(3), items(4, 5), num(-6)), "1.2 3 4.5 -6"},
		{valuesOf(num(1), num(2), num(3), num(4), num(5), num(6), num(7), num(8)), "1 2 3 4 5 6 7 8"},
		{valuesOf(num(1), num(2))[:1], "1"},
	}
	for _, c := range cases {
		if got := impl.MessageText(c.m); got != c.want {
			t.Errorf("MessageText(%v) is %q, not %q", c.m, got, c.want)
		}
	}
	long := slices.Repeat(valuesOf(num(3), items(slices.Repeat([]int{8}, 100)...)), 200)
	row := "3 " + strings.Repeat("8.", 99) + "8"
	if got := impl.MessageText(long); got != strings.Repeat(row+" ", 199)+row {
		t.Errorf("MessageText of %d values is %.60q", len(long), got)
	}
}

func TestThereCount(t *testing.T) {
	l := guarded()
	two := fieldsOf(aNum(1), when(aText(1), 0, 0), when(aText(1), 0, 1), when(aNum(1), 0, 1), aNum(3))
	cases := []struct {
		name string
		l    []impl.Field
		m    []impl.Value
		want int
	}{
		{"all there", l, valuesOf(num(2), items(97), items(5)), 3},
		{"one not there", l, valuesOf(num(1), num(0), num(0)), 2},
		{"one not there that has a value", l, valuesOf(num(1), items(97), num(0)), 2},
		{"one there that is empty", l, valuesOf(num(2), num(0), num(0)), 3},
		{"no values", l, nil, 2},
		{"the guard alone", l, valuesOf(num(2)), 3},
		{"another guard alone", l, valuesOf(num(3)), 2},
		{"the guard in the spare capacity", l, valuesOf(num(2))[:0], 2},
		{"too many values", l, valuesOf(num(2), num(0), num(0), num(0), num(0)), 3},
		{"too many values, one field not there", l, valuesOf(num(1), num(0), num(0), num(0), num(0)), 2},
		{"values that do not fit", l, valuesOf(both(2, 9), num(5), items(999)), 3},
		{"one of the conditions", two, valuesOf(num(0), num(0), num(0), num(0), num(0)), 3},
		{"two of the conditions", two, valuesOf(num(1), num(0), num(0), num(0), num(0)), 4},
		{"none of the conditions", two, valuesOf(num(2), num(0), num(0), num(0), num(0)), 2},
		{"none of the conditions without values", two, nil, 2},
		{"no fields", nil, nil, 0},
		{"no fields, values", []impl.Field{}, valuesOf(num(0), num(0)), 0},
		{"fields in the spare capacity", l[:1], valuesOf(num(2), num(0), num(0)), 1},
		// The list need not be a format.
		{"seven fields", slices.Repeat(fieldsOf(aNum(1)), 7), nil, 7},
		{"zero Fields", make([]impl.Field, 9), valuesOf(num(0)), 9},
		{"zero Fields, another number", make([]impl.Field, 9), valuesOf(num(1)), 0},
		{"zero Fields without values", make([]impl.Field, 9), nil, 0},
		{"Whens beyond all", fieldsOf(when(aNum(1), math.MinInt, 0), when(aNum(1), -2, 0), when(aNum(1), math.MaxInt, 0), aNum(1)), make([]impl.Value, 4), 1},
		{"a When of the last value", fieldsOf(when(aNum(1), 3, 8), when(aNum(1), 4, 8)), valuesOf(num(0), num(0), num(0), num(8)), 1},
		{"many fields", slices.Repeat(l, 10000), valuesOf(num(1)), 20000},
	}
	for _, c := range cases {
		if got := impl.ThereCount(c.l, c.m); got != c.want {
			t.Errorf("%s: ThereCount is %d, not %d", c.name, got, c.want)
		}
	}
}

// markedMessage returns a copy of a message with marks in the spare capacity of the
// list and of each value's Items.
func markedMessage(m []impl.Value) []impl.Value {
	out := []impl.Value{}
	for _, v := range m {
		list := append(slices.Clone(v.Items), slices.Repeat([]int{777}, 8)...)
		out = append(out, impl.Value{Num: v.Num, Items: list[:len(v.Items)]})
	}
	return append(out, slices.Repeat(valuesOf(both(78, 79)), 8)...)[:len(m)]
}

// memoryOf prints all memory behind a message, its spare capacity too.
func memoryOf(m []impl.Value) string {
	text := fmt.Sprint(len(m), m == nil, whole(m))
	for _, v := range whole(m) {
		text += fmt.Sprint(len(v.Items), v.Items == nil, whole(v.Items))
	}
	return text
}

func TestMessagesKeepArguments(t *testing.T) {
	mark := impl.Field{Kind: 77, Max: 78, When: 79, Is: 80}
	lists := append(someFormats(), nil, guarded(), fieldsOf(aList(6), when(aNum(1), 5, 0)), make([]impl.Field, 2))
	for _, fields := range lists {
		l := append(slices.Clone(fields), slices.Repeat(fieldsOf(mark), 8)...)[:len(fields)]
		fieldsBefore := slices.Clone(whole(l))
		messages := someMessages()
		if isBuilt(l) {
			messages = append(messages, fillings(l, 1)...)
		}
		for _, m := range messages {
			m, other := markedMessage(m), markedMessage(someMessages()[23])
			before, otherBefore := memoryOf(m), memoryOf(other)
			impl.FitsFormat(l, m)
			impl.ThereCount(l, m)
			impl.MessageText(m)
			impl.EqualMessages(m, other)
			impl.EqualMessages(other, m)
			impl.EqualMessages(m, m)
			for i := -1; i <= len(l); i++ {
				impl.IsThere(l, m, i)
			}
			for _, x := range fieldsOf(aNum(9), aText(3), aList(2), mark) {
				for _, v := range m {
					impl.FitsField(x, v)
				}
			}
			if memoryOf(m) != before || memoryOf(other) != otherBefore {
				t.Errorf("a message is changed to %v", whole(m))
			}
		}
		if !slices.Equal(whole(l), fieldsBefore) {
			t.Errorf("a list is changed to %v from %v", whole(l), fieldsBefore)
		}
	}
}
