package impl

import "strconv"

const MaxValue = 1000000000000

// No text with more digits stands for a number up to MaxValue, and one with so
// many digits cannot overflow an int while it is read.
const maxDigits = 13

func FormatInt(n int) string {
	return strconv.Itoa(n)
}

func ParseInt(s string) (int, bool) {
	if !InRange(len(s), 1, maxDigits) {
		return 0, false
	}
	n := 0
	for i := range len(s) {
		switch s[i] {
		case '0':
			// FormatInt writes a leading zero only as the whole of "0".
			if i == 0 && len(s) > 1 {
				return 0, false
			}
			fallthrough
		case '1', '2', '3', '4', '5', '6', '7', '8', '9':
			n = n*10 + int(s[i]-'0')
		default:
			return 0, false
		}
	}
	if n > MaxValue {
		return 0, false
	}
	return n, true
}

func Min(a int, b int) int {
	low, _ := extremes(a, b)
	return low
}

func Max(a int, b int) int {
	_, high := extremes(a, b)
	return high
}

// extremes takes its first number apart from the rest because no numbers at all
// would have neither a smallest nor a greatest one.
func extremes(first int, rest ...int) (int, int) {
	low, high := first, first
	for _, n := range rest {
		switch {
		case n < low:
			low = n
		case n > high:
			high = n
		}
	}
	return low, high
}

func CeilDiv(a int, b int) int {
	if !InRange(a, 0, MaxValue) || !InRange(b, 1, MaxValue) {
		return 0
	}
	return (a + b - 1) / b
}

func Mod(p int, q int) int {
	if !InRange(q, 1, MaxValue) {
		return 0
	}
	r := p % q
	// Go's remainder has the sign of p.
	if r < 0 {
		r += q
	}
	return r
}

func InRange(n int, low int, high int) bool {
	return low <= n && n <= high
}
