package tests

import (
	"fmt"
	"math"
	"slices"
	"testing"

	"loop.example/g03000/impl"
)

// Promise 8: wider formats accept every message of narrower ones (chapter 8).

// isInside says by another way than the program's whether a format is within another
// one: it is the other one with some Max lowered.
func isInside(a []impl.Field, b []impl.Field) bool {
	if len(a) != len(b) {
		return false
	}
	lowered := slices.Clone(b)
	for i := range lowered {
		lowered[i].Max = min(a[i].Max, b[i].Max)
	}
	return slices.Equal(a, lowered) && isBuilt(a) && isBuilt(b)
}

// changeOf tries each beginning of b where the program goes by the length of a, and
// takes formats for equal if each is inside the other.
func changeOf(a []impl.Field, b []impl.Field) int {
	inside, around := isInside(a, b), isInside(b, a)
	switch {
	case inside && around:
		return 0
	case inside:
		return 1
	case around:
		return 3
	}
	for n := range b {
		if isInside(a, b[:n]) && isBuilt(b) {
			return 2
		}
	}
	return 4
}

// checkChange holds what the program says of two lists against a code. The code says
// as well which of the two is within the other.
func checkChange(t *testing.T, name string, a []impl.Field, b []impl.Field, want int) {
	t.Helper()
	if got := impl.BreakOf(a, b); got != want {
		t.Errorf("%s: BreakOf(%.200v, %.200v) is %d, not %d", name, fmt.Sprint(a), fmt.Sprint(b), got, want)
	}
	if got := impl.IsWithin(a, b); got != (want == 0 || want == 1) {
		t.Errorf("%s: IsWithin(%.200v, %.200v) is %v", name, fmt.Sprint(a), fmt.Sprint(b), got)
	}
	if got := impl.IsWithin(b, a); got != (want == 0 || want == 3) {
		t.Errorf("%s: IsWithin(%.200v, %.200v) is %v", name, fmt.Sprint(b), fmt.Sprint(a), got)
	}
}

// checkBothWays holds the change there and back against changeOf.
func checkBothWays(t *testing.T, name string, a []impl.Field, b []impl.Field) {
	t.Helper()
	checkChange(t, name, a, b, changeOf(a, b))
	checkChange(t, name, b, a, changeOf(b, a))
}

func TestBreakName(t *testing.T) {
	codes := []int{impl.BrNone, impl.BrWider, impl.BrTail, impl.BrNarrower, impl.BrOther}
	if want := []int{0, 1, 2, 3, 4}; !slices.Equal(codes, want) {
		t.Errorf("the codes are %v, not %v", codes, want)
	}
	names := map[int]string{0: "none", 1: "wider", 2: "tail", 3: "narrower", 4: "other"}
	for _, code := range append(someNumbers(), -5, -4, -3, 8, 256, 257, 1<<32+4) {
		if got := impl.BreakName(code); got != names[code] {
			t.Errorf("BreakName(%d) is %q, not %q", code, got, names[code])
		}
	}
}

func TestBreakOf(t *testing.T) {
	l := guarded()
	two := fieldsOf(aNum(2), aNum(2), when(aText(2), 0, 1))
	six := fieldsOf(aNum(1), aText(5), aList(5), when(aText(2), 0, 0), when(aList(2), 0, 1), aNum(99))
	cases := []struct {
		name        string
		a, b        []impl.Field
		there, back int
	}{
		{"equal formats", l, guarded(), 0, 0},
		{"the same format", l, l, 0, 0},
		{"equal formats of one field", fieldsOf(aNum(1)), fieldsOf(aNum(1)), 0, 0},
		{"equal formats of six fields", six, slices.Clone(six), 0, 0},
		{"equal formats before the spare capacity", l[:1], fieldsOf(aNum(9), aNum(1), aNum(7))[:1], 0, 0},

		{"another Max at the first field", l, fieldsOf(aNum(10), when(aText(3), 0, 2), aList(2)), 1, 3},
		{"another Max between", l, fieldsOf(aNum(9), when(aText(4), 0, 2), aList(2)), 1, 3},
		{"another Max at the last field", l, fieldsOf(aNum(9), when(aText(3), 0, 2), aList(3)), 1, 3},
		{"another Max at each field", l, fieldsOf(aNum(99), when(aText(5), 0, 2), aList(5)), 1, 3},
		{"another Max of two fields", l, fieldsOf(aNum(9), when(aText(5), 0, 2), aList(5)), 1, 3},
		{"the least and the greatest Max of a number", fieldsOf(aNum(1)), fieldsOf(aNum(99)), 1, 3},
		{"the least and the greatest Max of a text", fieldsOf(aText(1)), fieldsOf(aText(5)), 1, 3},
		{"the least and the greatest Max of a list", fieldsOf(aList(1)), fieldsOf(aList(5)), 1, 3},
		{"another Max at the last of six fields", six[:5], append(slices.Clone(six[:4]), when(aList(3), 0, 1)), 1, 3},
		{"a greater Max at the first field and a smaller one at the last", l, fieldsOf(aNum(10), when(aText(3), 0, 2), aList(1)), 4, 4},
		{"a smaller Max at the first field and a greater one at the last", l, fieldsOf(aNum(8), when(aText(3), 0, 2), aList(3)), 4, 4},
		{"a greater Max, a smaller one and an equal one", l, fieldsOf(aNum(9), when(aText(4), 0, 2), aList(1)), 4, 4},
		{"a greater Max and another Is", l, fieldsOf(aNum(10), when(aText(3), 0, 3), aList(2)), 4, 4},
		{"a greater Max and another Is of the same field", l, fieldsOf(aNum(9), when(aText(4), 0, 3), aList(2)), 4, 4},
		{"a greater Max and another Kind", l, fieldsOf(aNum(10), when(aText(3), 0, 2), aText(2)), 4, 4},
		{"a greater Max and another Kind of the same field", l, fieldsOf(aNum(9), when(aText(3), 0, 2), aText(5)), 4, 4},

		{"another Kind alone", fieldsOf(aText(3)), fieldsOf(aList(3)), 4, 4},
		{"another Kind alone, of a number", fieldsOf(aNum(5)), fieldsOf(aText(5)), 4, 4},
		{"another Kind at the first field", fieldsOf(aList(2), aNum(5)), fieldsOf(aText(2), aNum(5)), 4, 4},
		{"another Kind between", l, fieldsOf(aNum(9), when(aList(3), 0, 2), aList(2)), 4, 4},
		{"another Kind at the last field", l, fieldsOf(aNum(9), when(aText(3), 0, 2), aText(2)), 4, 4},
		{"another When at the last field", two, fieldsOf(aNum(2), aNum(2), when(aText(2), 1, 1)), 4, 4},
		{"a When of -1 at the last field", fieldsOf(aNum(2), aText(2)), fieldsOf(aNum(2), when(aText(2), 0, 0)), 4, 4},
		{"a When and an Is at the last field", two, fieldsOf(aNum(2), aNum(2), aText(2)), 4, 4},
		{"another When at the first field, which makes it none", l, fieldsOf(when(aNum(9), 0, 0), when(aText(3), 0, 2), aList(2)), 4, 4},
		{"another Is between", l, fieldsOf(aNum(9), when(aText(3), 0, 1), aList(2)), 4, 4},
		{"another Is at the last field", two, fieldsOf(aNum(2), aNum(2), when(aText(2), 0, 2)), 4, 4},
		{"an Is of 0 at the last field", two, fieldsOf(aNum(2), aNum(2), when(aText(2), 0, 0)), 4, 4},
		{"another Is at the first field, which makes it none", l, fieldsOf(when(aNum(9), -1, 1), when(aText(3), 0, 2), aList(2)), 4, 4},
		{"an Is that only the greater Max allows", l, fieldsOf(aNum(20), when(aText(3), 0, 20), aList(2)), 4, 4},
		{"another order", fieldsOf(aNum(2), aText(2)), fieldsOf(aText(2), aNum(2)), 4, 4},

		{"a number more", l, append(guarded(), aNum(3)), 2, 4},
		{"a field more that is not always there", l, append(guarded(), when(aText(2), 0, 9)), 2, 4},
		{"three fields more, with a condition on one of them", l, append(guarded(), aNum(1), aText(1), when(aText(1), 3, 1)), 2, 4},
		{"the first of six fields", six[:1], six, 2, 4},
		{"all of six fields but the last", six[:5], six, 2, 4},
		{"another first field and five more", fieldsOf(aNum(2)), six, 4, 4},
		{"a field more and a greater Max at the first field", l, fieldsOf(aNum(10), when(aText(3), 0, 2), aList(2), aNum(1)), 2, 4},
		{"a field more and a greater Max before it", l, fieldsOf(aNum(9), when(aText(3), 0, 2), aList(3), aNum(1)), 2, 4},
		{"a field more and a smaller Max at the first field", l, fieldsOf(aNum(8), when(aText(3), 0, 2), aList(2), aNum(1)), 4, 4},
		{"a field more and a smaller Max before it", l, fieldsOf(aNum(9), when(aText(3), 0, 2), aList(1), aNum(1)), 4, 4},
		{"a field more and another Is", l, fieldsOf(aNum(9), when(aText(3), 0, 3), aList(2), aNum(1)), 4, 4},
		{"a field more and another Kind", l, fieldsOf(aNum(9), when(aText(3), 0, 2), aText(2), aNum(1)), 4, 4},
		{"a field more and another When", two, fieldsOf(aNum(2), aNum(2), when(aText(2), 1, 1), aNum(1)), 4, 4},
		{"a field more at the front", fieldsOf(aText(1), aNum(9)), fieldsOf(aNum(9), aText(1), aNum(9)), 4, 4},
		{"a field more between", fieldsOf(aText(1), aList(1)), fieldsOf(aText(1), aNum(1), aList(1)), 4, 4},
		{"a field more in the spare capacity of the other", l[:2], l, 2, 4},

		{"nil and nil", nil, nil, 4, 4},
		{"nil and empty", nil, []impl.Field{}, 4, 4},
		{"nil and a format", nil, l, 4, 4},
		{"empty and a format", []impl.Field{}, l, 4, 4},
		{"no fields before the spare capacity", l[:0], l, 4, 4},
		{"equal lists that are no formats", fieldsOf(aNum(100)), fieldsOf(aNum(100)), 4, 4},
		{"equal lists of zero Fields", make([]impl.Field, 3), make([]impl.Field, 3), 4, 4},
		{"equal lists of seven fields", slices.Repeat(fieldsOf(aNum(1)), 7), slices.Repeat(fieldsOf(aNum(1)), 7), 4, 4},
		{"a format and one with a Max too great at the first field", fieldsOf(aNum(99), aText(5)), fieldsOf(aNum(100), aText(5)), 4, 4},
		{"a format and one with a Max too great at the last field", fieldsOf(aNum(99), aText(5)), fieldsOf(aNum(99), aText(6)), 4, 4},
		{"a format and one with a Max of 0", fieldsOf(aNum(1), aText(1)), fieldsOf(aNum(1), aText(0)), 4, 4},
		{"a format and one with the greatest Max", fieldsOf(aNum(1)), fieldsOf(aNum(math.MaxInt)), 4, 4},
		{"a format and one with the least Max", fieldsOf(aNum(1)), fieldsOf(aNum(math.MinInt)), 4, 4},
		{"no formats that differ in Max", fieldsOf(aNum(100)), fieldsOf(aNum(101)), 4, 4},
		{"two kinds that are none", fieldsOf(impl.Field{Kind: 4, Max: 1, When: -1}), fieldsOf(impl.Field{Kind: 4, Max: 2, When: -1}), 4, 4},
		{"six fields and a seventh", slices.Repeat(fieldsOf(aNum(1)), 6), slices.Repeat(fieldsOf(aNum(1)), 7), 4, 4},
		{"a format and more fields than it may have", l, append(guarded(), slices.Repeat(fieldsOf(aNum(1)), 4)...), 4, 4},
		{"a format and a field more that has no Max", l, append(guarded(), aNum(0)), 4, 4},
		{"a format and a field more with a condition on itself", l, append(guarded(), when(aNum(1), 3, 0)), 4, 4},
		{"no format and a field more", fieldsOf(aNum(0)), fieldsOf(aNum(0), aNum(1)), 4, 4},
		{"no format at the front of a format", fieldsOf(aNum(0)), fieldsOf(aNum(1), aNum(1)), 4, 4},
	}
	for _, c := range cases {
		checkChange(t, c.name, c.a, c.b, c.there)
		checkChange(t, c.name+", back", c.b, c.a, c.back)
		if changeOf(c.a, c.b) != c.there || changeOf(c.b, c.a) != c.back {
			t.Errorf("%s: the test's own changes are %d and %d", c.name, changeOf(c.a, c.b), changeOf(c.b, c.a))
		}
	}
}

func TestBreakOfManyFields(t *testing.T) {
	many := slices.Repeat(fieldsOf(aNum(1)), 100000)
	checkChange(t, "many fields", many, slices.Clone(many), 4)
	for _, l := range append(someFormats(), nil, many[:1], many[:6], many[:7]) {
		checkChange(t, "a format and many fields", l, many, 4)
		checkChange(t, "many fields and a format", many, l, 4)
	}
}

func TestBreakOfOneOtherNumber(t *testing.T) {
	met := map[int]bool{}
	for _, l := range someFormats() {
		eachChange(l, func(changed []impl.Field) {
			checkBothWays(t, "another number", l, changed)
			checkBothWays(t, "another number and a field more", l, append(slices.Clone(changed), aList(1)))
			met[changeOf(l, changed)] = true
			// A list that is no format differs from itself as well.
			checkBothWays(t, "the same list", changed, slices.Clone(changed))
		})
	}
	if !met[1] || !met[3] || !met[4] {
		t.Errorf("the changes are only %v", met)
	}
}

// someFields returns fields of few numbers, of which some are in no format.
func someFields() []impl.Field {
	var fields []impl.Field
	for kind := range 4 {
		for greatest := range 3 {
			for _, condition := range [][2]int{{-1, 0}, {-1, 1}, {0, 0}, {0, 1}, {1, 1}} {
				fields = append(fields, when(impl.Field{Kind: kind, Max: greatest}, condition[0], condition[1]))
			}
		}
	}
	return fields
}

// Every change of few numbers is classified, also of lists that are no formats.
func TestBreakOfEveryShortList(t *testing.T) {
	lists := [][]impl.Field{nil}
	for _, first := range someFields() {
		lists = append(lists, fieldsOf(first))
		if first.When != -1 || first.Is != 0 || first.Max == 0 {
			continue
		}
		for _, second := range someFields() {
			lists = append(lists, fieldsOf(first, second))
		}
	}
	met := map[int]int{}
	for _, a := range lists {
		for _, b := range lists {
			want := changeOf(a, b)
			if got := impl.BreakOf(a, b); got != want {
				t.Fatalf("BreakOf(%v, %v) is %d, not %d", a, b, got, want)
			}
			if got := impl.IsWithin(a, b); got != (want <= 1) {
				t.Fatalf("IsWithin(%v, %v) is %v", a, b, got)
			}
			met[want]++
		}
	}
	if len(met) != 5 {
		t.Errorf("the changes are only %v", met)
	}
}

func TestBreakOfManyFormats(t *testing.T) {
	for _, a := range someFormats() {
		for _, b := range someFormats() {
			checkBothWays(t, "two formats", a, b)
			for n := range len(b) + 1 {
				checkBothWays(t, "a format and a beginning", a, b[:n])
				checkBothWays(t, "a format and others behind it", a, slices.Concat(a, b[:n]))
			}
		}
	}
}

// widerOf returns formats that are a little or as much as possible wider than one, at
// one field or at all of them.
func widerOf(l []impl.Field) [][]impl.Field {
	greatest := map[int]int{1: 99, 2: 5, 3: 5}
	widest := slices.Clone(l)
	all := [][]impl.Field{slices.Clone(l)}
	for i, x := range l {
		widest[i].Max = greatest[x.Kind]
		for _, n := range []int{x.Max + 1, greatest[x.Kind]} {
			wider := slices.Clone(l)
			wider[i].Max = min(n, greatest[x.Kind])
			all = append(all, wider)
		}
	}
	return append(all, widest)
}

// checkAccepted holds that a format reads a message as it was written by another one,
// and writes it so again.
func checkAccepted(t *testing.T, a []impl.Field, b []impl.Field, m []impl.Value) {
	t.Helper()
	code := written(a, m)
	got, ok := impl.DecodeMessage(b, code)
	if !ok || fmt.Sprint(got) != fmt.Sprint(m) {
		t.Errorf("DecodeMessage(%v, %v) is %v, %v, not %v of %v", b, code, got, ok, m, a)
	}
	again, ok := impl.EncodeMessage(b, m)
	if !ok || !slices.Equal(again, code) || !impl.FitsFormat(b, m) {
		t.Errorf("EncodeMessage(%v, %v) is %v, %v, not %v as for %v", b, m, again, ok, code, a)
	}
}

func TestWiderFormatsAcceptMessages(t *testing.T) {
	for _, l := range someFormats() {
		for _, wider := range widerOf(l) {
			if !impl.IsWithin(l, wider) {
				t.Errorf("IsWithin(%v, %v) is false", l, wider)
			}
			for _, m := range aboutForty(fillings(l, 3)) {
				checkAccepted(t, l, wider, m)
			}
			for _, seed := range someSeeds() {
				m := impl.MakeMessage(l, seed)
				checkAccepted(t, l, wider, m)
				if got, ok := impl.DecodeMessage(wider, impl.MakeBytes(l, seed)); !ok || !impl.EqualMessages(got, m) {
					t.Errorf("the bytes of %v and %d are read by %v as %v, %v", l, seed, wider, got, ok)
				}
				if !impl.SkipsTail(wider, l, seed) {
					t.Errorf("SkipsTail(%v, %v, %d) is false", wider, l, seed)
				}
			}
			for seeds := range 51 {
				checkLost(t, "a wider format", l, wider, seeds, 0)
			}
		}
	}
}

// Whatever the program takes for wider has to accept every message, whichever number
// is another one.
func TestFormatsThatAreWithinAcceptMessages(t *testing.T) {
	count := 0
	for _, l := range someFormats() {
		messages := aboutForty(fillings(l, 2))
		eachChange(l, func(changed []impl.Field) {
			if impl.IsWithin(l, changed) {
				count++
				for _, m := range messages {
					checkAccepted(t, l, changed, m)
				}
			}
			if impl.IsWithin(changed, l) {
				count++
				for _, m := range aboutForty(fillings(changed, 2)) {
					checkAccepted(t, changed, l, m)
				}
			}
		})
	}
	if count == 0 {
		t.Error("no format is within another one")
	}
}

func checkLost(t *testing.T, name string, a []impl.Field, b []impl.Field, seeds int, want int) {
	t.Helper()
	if got := impl.LostBy(a, b, seeds); got != want {
		t.Errorf("%s: LostBy(%.200v, %.200v, %d) is %d, not %d", name, fmt.Sprint(a), fmt.Sprint(b), seeds, got, want)
	}
}

func TestLostBy(t *testing.T) {
	l := guarded()
	all, none := [6]int{1, 2, 10, 30, 49, 50}, [6]int{}
	cases := []struct {
		name string
		a, b []impl.Field
		want [6]int // for 1, 2, 10, 30, 49 and 50 seeds
	}{
		{"equal formats", l, guarded(), none},
		{"a wider list", l, fieldsOf(aNum(9), when(aText(3), 0, 2), aList(4)), none},
		{"a narrower list", fieldsOf(aNum(9), when(aText(3), 0, 2), aList(4)), l, [6]int{1, 1, 4, 12, 20, 20}},
		{"a wider number", l, fieldsOf(aNum(12), when(aText(3), 0, 2), aList(2)), none},
		{"a narrower number", fieldsOf(aNum(12), when(aText(3), 0, 2), aList(2)), l, [6]int{0, 1, 2, 7, 11, 11}},
		{"half of a number", fieldsOf(aNum(99)), fieldsOf(aNum(49)), [6]int{0, 0, 0, 17, 21, 22}},
		{"nearly nothing of a number", fieldsOf(aNum(99)), fieldsOf(aNum(1)), [6]int{1, 2, 10, 29, 48, 49}},
		{"a greater Max and a smaller one", fieldsOf(aNum(9), aList(2)), fieldsOf(aNum(12), aList(1)), [6]int{0, 1, 3, 10, 16, 17}},
		{"another Is", l, fieldsOf(aNum(9), when(aText(3), 0, 3), aList(2)), [6]int{0, 0, 2, 6, 10, 10}},
		{"no condition", l, fieldsOf(aNum(9), aText(3), aList(2)), [6]int{1, 2, 9, 27, 44, 45}},
		{"another order", fieldsOf(aNum(1), aText(1)), fieldsOf(aText(1), aNum(1)), [6]int{1, 1, 5, 14, 24, 24}},
		{"a list as a text", fieldsOf(aList(3)), fieldsOf(aText(3)), none},
		{"a text as a list", fieldsOf(aText(3)), fieldsOf(aList(3)), none},
		{"a number as a text", fieldsOf(aNum(5)), fieldsOf(aText(5)), [6]int{1, 2, 8, 25, 41, 42}},
		{"a list as a number", fieldsOf(aList(2)), fieldsOf(aNum(9)), [6]int{0, 1, 6, 20, 32, 33}},
		{"two numbers as a list", fieldsOf(aNum(1), aNum(1)), fieldsOf(aList(1)), [6]int{0, 1, 5, 15, 24, 25}},
		{"a longer format", l, append(guarded(), aNum(3)), all},
		{"a shorter format", append(guarded(), aNum(3)), l, all},
		{"a field more that is not always there", l, append(guarded(), when(aText(2), 0, 2)), [6]int{0, 0, 1, 3, 5, 5}},
		{"a field less that is not always there", append(guarded(), when(aText(2), 0, 2)), l, [6]int{0, 0, 1, 3, 5, 5}},
		{"six fields", fieldsOf(aNum(1), aText(5), aList(5), when(aText(2), 0, 0), when(aList(2), 0, 1), aNum(99)),
			fieldsOf(aNum(1), aText(4), aList(5), when(aText(2), 0, 0), when(aList(2), 0, 1), aNum(98)), [6]int{0, 0, 1, 5, 8, 8}},
		{"nil as a reader", l, nil, all},
		{"an empty reader", l, []impl.Field{}, all},
		{"a reader that is no format", l, fieldsOf(aNum(100), when(aText(3), 0, 2), aList(2)), all},
		{"a reader of zero Fields", l, make([]impl.Field, 3), all},
		{"a reader of seven fields", fieldsOf(aNum(1)), slices.Repeat(fieldsOf(aNum(1)), 7), all},
		{"nil", nil, l, none},
		{"no fields", []impl.Field{}, l, none},
		{"fields in the spare capacity", l[:0], l, none},
		{"no format", fieldsOf(aNum(100)), l, none},
		{"no format, the zero Field", make([]impl.Field, 1), l, none},
		{"nil and nil", nil, nil, none},
		{"the same list, which is no format", fieldsOf(aText(6)), fieldsOf(aText(6)), none},
	}
	for _, c := range cases {
		for i, seeds := range []int{1, 2, 10, 30, 49, 50} {
			checkLost(t, c.name, c.a, c.b, seeds, c.want[i])
		}
		for _, seeds := range []int{math.MinInt, math.MinInt + 1, -1 << 32, -50, -2, -1, 0, 51, 52, 100, 1 << 32, 1<<32 + 50, math.MaxInt - 1, math.MaxInt} {
			checkLost(t, c.name, c.a, c.b, seeds, 0)
		}
	}
}

// isLost says by another way than the program's whether what is made of one format is
// not accepted by another one: no message of this one has these bytes.
func isLost(a []impl.Field, b []impl.Field, seed int) bool {
	code := written(a, madeOf(a, seed))
	if !isBuilt(b) {
		return true
	}
	return !slices.ContainsFunc(readings(b, code), func(r reading) bool { return r.size == len(code) })
}

func TestLostByOfManyFormats(t *testing.T) {
	lists := append(someFormats(), nil, fieldsOf(aText(6)))
	for _, a := range someFormats() {
		for _, b := range slices.Concat(lists, widerOf(a)) {
			want := 0
			for seeds := range 51 {
				checkLost(t, "two formats", a, b, seeds, want)
				if isLost(a, b, seeds) {
					want++
				}
			}
			checkLost(t, "two formats", a, b, 51, 0)
		}
		eachChange(a, func(changed []impl.Field) {
			want := 0
			for seed := range 5 {
				if isLost(a, changed, seed) {
					want++
				}
			}
			checkLost(t, "another reader", a, changed, 5, want)
			if !isBuilt(changed) {
				checkLost(t, "no format", changed, a, 5, 0)
			}
		})
	}
}

func TestSkipsTail(t *testing.T) {
	l := guarded()
	always, never := "1111111111111111", "0000000000000000"
	cases := []struct {
		name string
		a, b []impl.Field
		want string // for the seeds from 0 on
	}{
		{"equal formats", l, guarded(), always},
		{"a tail that is there", l, append(guarded(), aNum(3)), always},
		{"a tail that is there or not", l, append(guarded(), when(aText(2), 0, 2)), always},
		{"a tail of one that is there and one that is not", l, append(guarded(), aList(5), when(aText(2), 0, 2)), always},
		{"the first of three fields", l[:1], l, always},
		{"the first two of three fields", l[:2], l, always},
		{"the first two of other three fields", fieldsOf(aNum(9), when(aText(3), 0, 3)), l, "1101111111110110"},
		{"the narrower of two", fieldsOf(aNum(12), when(aText(3), 0, 2), aList(2)), l, always},
		{"the wider of two", l, fieldsOf(aNum(12), when(aText(3), 0, 2), aList(2)), "1011011111101101"},
		{"the wider of two, at the last field", l, fieldsOf(aNum(9), when(aText(3), 0, 2), aList(4)), "0110101101011010"},
		{"a longer format", append(guarded(), aNum(3)), l, never},
		{"a longer format with a field that is there or not", append(guarded(), when(aText(2), 0, 2)), l, never},
		{"a number and what would not be there", fieldsOf(aNum(9), when(aText(3), 0, 2)), fieldsOf(aNum(9)), never},
		{"a number and a field", fieldsOf(aNum(9), when(aText(3), 0, 2)), fieldsOf(aNum(9), aNum(1)), "0101010101010101"},
		{"another Is", fieldsOf(aNum(9), when(aText(3), 0, 3), aList(2)), l, "1101101111110110"},
		{"no condition", fieldsOf(aNum(9), aText(3), aList(2)), l, "0000010000000001"},
		{"a text as a list", fieldsOf(aList(3)), fieldsOf(aText(3)), always},
		{"a list as a number, the same if it is empty", fieldsOf(aNum(9)), fieldsOf(aList(2)), "1001001001001001"},
		{"a number as a text, the same if it is 0", fieldsOf(aText(5)), fieldsOf(aNum(5)), "0001000001000001"},
		{"a number as a list, the same if it is 0", fieldsOf(aList(1)), fieldsOf(aNum(1)), "0101010101010101"},
		{"another order", fieldsOf(aText(1), aNum(1)), fieldsOf(aNum(1), aText(1)), "0101010101010101"},
		{"two numbers as a list", fieldsOf(aList(1)), fieldsOf(aNum(1), aNum(1)), "0101010101010101"},
		{"nil", nil, l, never},
		{"no fields", []impl.Field{}, l, never},
		{"fields in the spare capacity", l[:0], l, never},
		{"nil as a writer", l, nil, never},
		{"an empty writer", l, []impl.Field{}, never},
		{"nil and nil", nil, nil, never},
		{"empty and nil", []impl.Field{}, nil, never},
		{"a reader that is no format", fieldsOf(aNum(100)), l, never},
		{"a writer that is no format", l, append(guarded(), aNum(100)), never},
		{"the same list, which is no format", fieldsOf(aText(6)), fieldsOf(aText(6)), never},
		{"zero Fields", make([]impl.Field, 1), make([]impl.Field, 1), never},
		{"a reader of seven fields", slices.Repeat(fieldsOf(aNum(1)), 7), slices.Repeat(fieldsOf(aNum(1)), 6), never},
		{"a writer of seven fields", slices.Repeat(fieldsOf(aNum(1)), 6), slices.Repeat(fieldsOf(aNum(1)), 7), never},
		{"a reader of many fields", slices.Repeat(fieldsOf(aNum(1)), 100000), fieldsOf(aNum(1)), never},
	}
	for _, c := range cases {
		for seed, want := range c.want {
			if got := impl.SkipsTail(c.a, c.b, seed); got != (want == '1') {
				t.Errorf("%s: SkipsTail(%.200v, %.200v, %d) is %v", c.name, fmt.Sprint(c.a), fmt.Sprint(c.b), seed, got)
			}
		}
		if c.want == always || c.want == never {
			for _, seed := range someSeeds() {
				if got := impl.SkipsTail(c.a, c.b, seed); got != (c.want == always) {
					t.Errorf("%s: SkipsTail(%.200v, %.200v, %d) is %v", c.name, fmt.Sprint(c.a), fmt.Sprint(c.b), seed, got)
				}
			}
		}
	}
}

// checkSkipping holds the program against the messages of a whose encoding is a
// beginning of the bytes that are made of b.
func checkSkipping(t *testing.T, a []impl.Field, b []impl.Field, seed int) {
	t.Helper()
	want := false
	if isBuilt(a) && isBuilt(b) {
		m := madeOf(b, seed)
		for _, r := range readings(a, written(b, m)) {
			want = want || len(a) <= len(b) && fmt.Sprint(r.m) == fmt.Sprint(m[:len(a)])
		}
	}
	if got := impl.SkipsTail(a, b, seed); got != want {
		t.Errorf("SkipsTail(%v, %v, %d) is %v", a, b, seed, got)
	}
}

func TestSkipsTailOfManyFormats(t *testing.T) {
	for _, a := range someFormats() {
		for _, b := range slices.Concat(someFormats(), widerOf(a), [][]impl.Field{nil, fieldsOf(aText(6))}) {
			for _, seed := range someSeeds() {
				checkSkipping(t, a, b, seed)
			}
		}
		eachChange(a, func(changed []impl.Field) {
			for _, seed := range []int{math.MinInt, -1, 0, 5, math.MaxInt} {
				checkSkipping(t, a, changed, seed)
				checkSkipping(t, changed, a, seed)
			}
		})
	}
}

// Who knows the first fields only reads them, whatever the others are.
func TestBeginningsSkipTails(t *testing.T) {
	for _, l := range someFormats() {
		for n := 1; n <= len(l); n++ {
			for _, seed := range someSeeds() {
				if !impl.SkipsTail(l[:n], l, seed) {
					t.Errorf("SkipsTail(%v, %v, %d) is false", l[:n], l, seed)
				}
				if n < len(l) && impl.SkipsTail(l, l[:n], seed) {
					t.Errorf("SkipsTail(%v, %v, %d) is true", l, l[:n], seed)
				}
			}
		}
	}
}

func TestDifferencesWithAnyIntEverywhere(t *testing.T) {
	for _, n := range someNumbers() {
		x := impl.Field{Kind: n, Max: n, When: n, Is: n}
		for size := range 8 {
			l := slices.Repeat(fieldsOf(x), size)
			for _, other := range append(someFormats(), l, nil) {
				checkChange(t, "a list of one number", l, other, 4)
				checkChange(t, "a list of one number, back", other, l, 4)
				checkLost(t, "a list of one number", l, other, n, 0)
				if impl.SkipsTail(l, other, n) || impl.SkipsTail(other, l, n) {
					t.Errorf("SkipsTail of %v and %v with %d is true", l, other, n)
				}
			}
		}
	}
}

// markedFields returns a copy of a list with marks in its spare capacity.
func markedFields(l []impl.Field) []impl.Field {
	mark := impl.Field{Kind: 77, Max: 78, When: 79, Is: 80}
	return append(slices.Clone(l), slices.Repeat(fieldsOf(mark), 8)...)[:len(l)]
}

func TestDifferencesKeepArguments(t *testing.T) {
	lists := append(someFormats(), nil, fieldsOf(aList(6)), make([]impl.Field, 2))
	for _, a := range lists {
		for _, b := range slices.Concat(lists, widerOf(a)) {
			a, b := markedFields(a), markedFields(b)
			beforeA, beforeB := slices.Clone(whole(a)), slices.Clone(whole(b))
			impl.IsWithin(a, b)
			impl.BreakOf(a, b)
			for _, seed := range []int{math.MinInt, 0, 1, 7, 50, math.MaxInt} {
				impl.LostBy(a, b, seed)
				impl.SkipsTail(a, b, seed)
			}
			if !slices.Equal(whole(a), beforeA) || !slices.Equal(whole(b), beforeB) {
				t.Errorf("the lists are changed to %v and %v", whole(a), whole(b))
			}
		}
	}
	// The lists may lie in the same memory.
	l := markedFields(guarded())
	before := slices.Clone(whole(l))
	for n := range len(l) + 1 {
		impl.BreakOf(l[:n], l)
		impl.BreakOf(l, l[:n])
		impl.SkipsTail(l[:n], l, 5)
		impl.LostBy(l[:n], l, 50)
	}
	if !slices.Equal(whole(l), before) {
		t.Errorf("the list is changed to %v", whole(l))
	}
}
