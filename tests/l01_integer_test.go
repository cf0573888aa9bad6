package tests

import (
	"math"
	"strconv"
	"strings"
	"testing"

	"loop.example/g03000/impl"
)

// Promise 1: integers are parsed from their decimal form (chapter 1).

func TestFormatInt(t *testing.T) {
	if impl.MaxValue != 1000000000000 {
		t.Errorf("MaxValue is %d", impl.MaxValue)
	}
	cases := []struct {
		n    int
		want string
	}{
		{0, "0"}, {7, "7"}, {10, "10"}, {120, "120"}, {1001, "1001"},
		{-1, "-1"}, {-3, "-3"}, {-10, "-10"},
		{impl.MaxValue, "1000000000000"}, {-impl.MaxValue, "-1000000000000"},
		{impl.MaxValue + 1, "1000000000001"},
		{math.MaxInt, "9223372036854775807"},
		{math.MinInt, "-9223372036854775808"},
		{math.MinInt + 1, "-9223372036854775807"},
	}
	for _, c := range cases {
		if got := impl.FormatInt(c.n); got != c.want {
			t.Errorf("FormatInt(%d) is %q, not %q", c.n, got, c.want)
		}
	}
}

func TestParseIntAccepts(t *testing.T) {
	cases := []struct {
		s    string
		want int
	}{
		{"0", 0}, {"1", 1}, {"9", 9}, {"10", 10}, {"17", 17}, {"100", 100}, {"907", 907},
		{"1234567890", 1234567890},
		{"999999999999", impl.MaxValue - 1},
		{"1000000000000", impl.MaxValue},
	}
	for _, c := range cases {
		if n, ok := impl.ParseInt(c.s); !ok || n != c.want {
			t.Errorf("ParseInt(%q) is %d, %v", c.s, n, ok)
		}
	}
}

func TestParseIntRejects(t *testing.T) {
	texts := map[string][]string{
		"nothing":          {""},
		"leading zeros":    {"00", "01", "000", "017", "0000000000001", "01000000000000"},
		"signs":            {"-", "+", "-0", "+0", "-1", "+1", "--1", "-3", "1-", "1+", "-1000000000000"},
		"blanks":           {" ", " 1", "1 ", "1 2", "\t1", "1\n", "\n"},
		"other forms":      {"0x10", "1e3", "1.0", "1_000", "1,000", "0b1", "0o7", "1x", "x1", "a", "NaN"},
		"bytes by digits":  {"/", ":", "1/", "1:", "1\x00", "\x00", "\xff", "1\xff"},
		"other digits":     {"\uff11", "\u0663", "1\u0663"},
		"beyond MaxValue":  {"1000000000001", "1000000000010", "2000000000000", "9999999999999", "10000000000000"},
		"about Go's int":   {"9223372036854775807", "9223372036854775808", "-9223372036854775808"},
		"wrap to a number": {"18446744073709551616", "18446744073709551617", "18446744074709551616"},
		"longer than any":  {strings.Repeat("1", 1000), strings.Repeat("0", 1000), "1" + strings.Repeat("0", 100000)},
	}
	for name, list := range texts {
		for _, s := range list {
			if n, ok := impl.ParseInt(s); ok || n != 0 {
				t.Errorf("%s: ParseInt of %d bytes %.30q is %d, %v", name, len(s), s, n, ok)
			}
		}
	}
}

// checkParse holds ParseInt against the document's definition by FormatInt.
func checkParse(t *testing.T, s string) {
	t.Helper()
	want, err := strconv.Atoi(s)
	valid := err == nil && want >= 0 && want <= impl.MaxValue && strconv.Itoa(want) == s
	if !valid {
		want = 0
	}
	if n, ok := impl.ParseInt(s); ok != valid || n != want {
		t.Errorf("ParseInt(%q) is %d, %v, not %d, %v", s, n, ok, want, valid)
	}
}

func TestParseIntOfShortTexts(t *testing.T) {
	for c := range 256 {
		checkParse(t, string([]byte{byte(c)}))
		checkParse(t, string([]byte{'1', byte(c)}))
		checkParse(t, string([]byte{byte(c), '1'}))
	}
	const letters = "0159+-_ "
	texts := []string{""}
	for len(texts[0]) < 5 {
		var longer []string
		for _, s := range texts {
			checkParse(t, s)
			for _, c := range letters {
				longer = append(longer, s+string(c))
			}
		}
		texts = longer
	}
}

func TestParseIntInvertsFormatInt(t *testing.T) {
	numbers := []int{impl.MaxValue, math.MaxInt, math.MinInt}
	for n := range 2000 {
		numbers = append(numbers, n, -n, impl.MaxValue-1000+n, math.MaxInt-n, math.MinInt+n)
	}
	for p := 1; p <= impl.MaxValue*10; p *= 10 {
		numbers = append(numbers, p-1, p, p+1, 7*p)
	}
	for _, n := range numbers {
		s := impl.FormatInt(n)
		checkParse(t, s)
		got, ok := impl.ParseInt(s)
		if valid := n >= 0 && n <= impl.MaxValue; ok != valid || valid && got != n {
			t.Errorf("ParseInt(FormatInt(%d)) is %d, %v", n, got, ok)
		}
		if got, ok := impl.ParseInt("0" + s); ok || got != 0 {
			t.Errorf("ParseInt(%q) is %d, %v", "0"+s, got, ok)
		}
	}
}

func TestMinAndMax(t *testing.T) {
	// In ascending order, so that the places tell what is smaller.
	numbers := []int{math.MinInt, math.MinInt + 1, -impl.MaxValue, -2, -1, 0, 1, 2, impl.MaxValue, math.MaxInt - 1, math.MaxInt}
	for i, a := range numbers {
		for j, b := range numbers {
			low, high := a, b
			if i > j {
				low, high = b, a
			}
			if got := impl.Min(a, b); got != low {
				t.Errorf("Min(%d, %d) is %d", a, b, got)
			}
			if got := impl.Max(a, b); got != high {
				t.Errorf("Max(%d, %d) is %d", a, b, got)
			}
		}
	}
}

func TestCeilDiv(t *testing.T) {
	cases := []struct{ a, b, want int }{
		{7, 3, 3}, {6, 3, 2}, {0, 1, 0}, {0, impl.MaxValue, 0},
		{1, impl.MaxValue, 1}, {impl.MaxValue, 1, impl.MaxValue},
		{impl.MaxValue, impl.MaxValue, 1}, {impl.MaxValue, impl.MaxValue - 1, 2},
		{impl.MaxValue - 1, impl.MaxValue, 1}, {impl.MaxValue, 3, 333333333334},
		// a is out of its range.
		{-1, 1, 0}, {-7, 3, 0}, {-impl.MaxValue, 1, 0}, {math.MinInt, 1, 0},
		{impl.MaxValue + 1, 1, 0}, {impl.MaxValue + 1, impl.MaxValue, 0}, {math.MaxInt, 2, 0},
		// b is out of its range.
		{0, 0, 0}, {5, 0, 0}, {5, -1, 0}, {5, math.MinInt, 0},
		{5, impl.MaxValue + 1, 0}, {impl.MaxValue, impl.MaxValue + 1, 0}, {5, math.MaxInt, 0},
		// Both are.
		{-6, -3, 0}, {math.MinInt, -1, 0}, {math.MaxInt, math.MaxInt, 0}, {-1, 0, 0},
	}
	for _, c := range cases {
		if got := impl.CeilDiv(c.a, c.b); got != c.want {
			t.Errorf("CeilDiv(%d, %d) is %d, not %d", c.a, c.b, got, c.want)
		}
	}
	for a := range 61 {
		for b := 1; b <= 20; b++ {
			if c := impl.CeilDiv(a, b); c*b < a || (c-1)*b >= a {
				t.Errorf("CeilDiv(%d, %d) is %d", a, b, c)
			}
		}
	}
}

func TestMod(t *testing.T) {
	cases := []struct{ p, q, want int }{
		{-1, 7, 6}, {15, 7, 1}, {-7, 7, 0}, {-8, 7, 6}, {7, 7, 0}, {0, 7, 0}, {6, 7, 6},
		{5, 1, 0}, {-5, 1, 0},
		{impl.MaxValue, impl.MaxValue, 0}, {-impl.MaxValue, impl.MaxValue, 0},
		{impl.MaxValue - 1, impl.MaxValue, impl.MaxValue - 1}, {-1, impl.MaxValue, impl.MaxValue - 1},
		// p may be any int.
		{math.MaxInt, impl.MaxValue, 36854775807}, {math.MinInt, impl.MaxValue, 963145224192},
		{math.MaxInt, 2, 1}, {math.MinInt, 2, 0}, {math.MinInt, 1, 0}, {math.MinInt + 1, 2, 1},
		// q is out of its range.
		{3, 0, 0}, {0, 0, 0}, {-3, 0, 0}, {5, -7, 0}, {-5, -7, 0}, {5, -1, 0},
		{5, impl.MaxValue + 1, 0}, {-5, impl.MaxValue + 1, 0},
		{5, math.MaxInt, 0}, {5, math.MinInt, 0}, {math.MinInt, -1, 0}, {math.MinInt, math.MinInt, 0}, {math.MinInt, 0, 0},
	}
	for _, c := range cases {
		if got := impl.Mod(c.p, c.q); got != c.want {
			t.Errorf("Mod(%d, %d) is %d, not %d", c.p, c.q, got, c.want)
		}
	}
	for p := -60; p <= 60; p++ {
		for q := 1; q <= 20; q++ {
			if r := impl.Mod(p, q); r < 0 || r >= q || (p-r)%q != 0 {
				t.Errorf("Mod(%d, %d) is %d", p, q, r)
			}
		}
	}
}

func TestInRange(t *testing.T) {
	cases := []struct {
		n, low, high int
		want         bool
	}{
		{2, 2, 3, true}, {3, 2, 3, true}, {1, 2, 3, false}, {4, 2, 3, false},
		{5, 2, 9, true}, {5, 5, 5, true}, {4, 5, 5, false}, {6, 5, 5, false},
		{-3, -5, -1, true}, {-6, -5, -1, false}, {0, -5, -1, false},
		// From a greater number to a smaller one there is nothing.
		{2, 3, 2, false}, {3, 3, 2, false}, {2, 3, 1, false},
		{0, math.MinInt, math.MaxInt, true}, {0, math.MaxInt, math.MinInt, false},
		{math.MinInt, math.MinInt, math.MaxInt, true}, {math.MaxInt, math.MinInt, math.MaxInt, true},
		{math.MinInt, math.MinInt + 1, math.MaxInt, false}, {math.MaxInt, math.MinInt, math.MaxInt - 1, false},
		{math.MinInt, 0, 1, false}, {math.MaxInt, 0, 1, false},
	}
	for _, c := range cases {
		if got := impl.InRange(c.n, c.low, c.high); got != c.want {
			t.Errorf("InRange(%d, %d, %d) is %v", c.n, c.low, c.high, got)
		}
	}
}
