package tests

import (
	"bytes"
	"encoding/binary"
	"math"
	"slices"
	"testing"

	"loop.example/g03000/impl"
)

// Promise 2: integers and byte strings are decoded from their encodings (chapter 2).

// numbersAcross returns numbers inside and outside 0 to MaxValue, those about
// every change of the length of a varint among them.
func numbersAcross() []int {
	numbers := []int{math.MinInt, math.MinInt + 1, -impl.MaxValue, -128, -2, -1, 300, math.MaxInt - 1, math.MaxInt}
	for shift := range 63 {
		numbers = append(numbers, 1<<shift-1, 1<<shift, 1<<shift+1, -1<<shift)
	}
	for n := range 300 {
		numbers = append(numbers, n, impl.MaxValue-150+n)
	}
	return numbers
}

func isCarried(n int) bool {
	return n >= 0 && n <= impl.MaxValue
}

// varintOf writes n by another way than the program's.
func varintOf(n int) []byte {
	if !isCarried(n) {
		return nil
	}
	return binary.AppendUvarint(nil, uint64(n))
}

// outOf returns offsets that are out of the range of a list of this length.
func outOf(length int) []int {
	return []int{-1, -2, -length - 1, math.MinInt, math.MinInt + 1, length + 1, length + 2, impl.MaxValue, math.MaxInt - 1, math.MaxInt}
}

func TestAppendUvarint(t *testing.T) {
	cases := []struct {
		b    []byte
		n    int
		want []byte
	}{
		{nil, 0, []byte{0}},
		{nil, 1, []byte{1}},
		{nil, 127, []byte{127}},
		{nil, 128, []byte{128, 1}},
		{nil, 300, []byte{172, 2}},
		{nil, 16383, []byte{255, 127}},
		{nil, 16384, []byte{128, 128, 1}},
		{nil, 1<<35 - 1, []byte{255, 255, 255, 255, 127}},
		{nil, 1 << 35, []byte{128, 128, 128, 128, 128, 1}},
		{nil, impl.MaxValue, []byte{128, 160, 148, 165, 141, 29}},
		{[]byte{}, 5, []byte{5}},
		{[]byte{9}, 5, []byte{9, 5}},
		{[]byte{128}, 128, []byte{128, 128, 1}},
		{[]byte{1, 2, 3}, 300, []byte{1, 2, 3, 172, 2}},
		// Out of the range, nothing is appended.
		{nil, -1, nil},
		{[]byte{}, -1, nil},
		{[]byte{9}, -1, []byte{9}},
		{[]byte{9}, -128, []byte{9}},
		{[]byte{9}, math.MinInt, []byte{9}},
		{[]byte{9}, impl.MaxValue + 1, []byte{9}},
		{[]byte{9, 8}, math.MaxInt, []byte{9, 8}},
	}
	for _, c := range cases {
		if got := impl.AppendUvarint(c.b, c.n); !bytes.Equal(got, c.want) {
			t.Errorf("AppendUvarint(%v, %d) is %v, not %v", c.b, c.n, got, c.want)
		}
	}
}

func TestReadUvarintInvertsAppendUvarint(t *testing.T) {
	before := []byte{200, 0, 128}
	for _, n := range numbersAcross() {
		b := impl.AppendUvarint(before, n)
		want := varintOf(n)
		if !bytes.Equal(b[:3], before) || !bytes.Equal(b[3:], want) {
			t.Errorf("AppendUvarint(%v, %d) is %v", before, n, b)
			continue
		}
		if !isCarried(n) {
			continue
		}
		for _, behind := range [][]byte{nil, {0}, {127}, {128}, {255, 255}} {
			b := append(slices.Clone(b), behind...)
			if got, next, ok := impl.ReadUvarint(b, 3); !ok || got != n || next != 3+len(want) {
				t.Errorf("ReadUvarint(%v, 3) is %d, %d, %v, not %d", b, got, next, ok, n)
			}
		}
		for cut := range len(want) {
			if got, next, ok := impl.ReadUvarint(b[:3+cut], 3); ok || got != 0 || next != 0 {
				t.Errorf("cut off: ReadUvarint(%v, 3) is %d, %d, %v", b[:3+cut], got, next, ok)
			}
		}
	}
}

func TestReadUvarintRejects(t *testing.T) {
	texts := map[string][][]byte{
		"cut off": {
			nil, {}, {128}, {129}, {255}, {128, 128}, {172, 130}, {128, 128, 128, 128, 128}, {255, 255, 255, 255, 255},
		},
		"not minimal": {
			{128, 0}, {129, 0}, {255, 0}, {172, 130, 0}, {128, 128, 0}, {128, 128, 128, 0},
			{255, 255, 255, 255, 0}, {128, 128, 128, 128, 128, 0}, {255, 255, 255, 255, 255, 0},
			{128, 0, 5}, {128, 0, 128, 1},
		},
		"beyond MaxValue": {
			{129, 160, 148, 165, 141, 29}, {128, 160, 148, 165, 141, 30}, {128, 161, 148, 165, 141, 29},
			{128, 128, 128, 128, 128, 30}, {128, 128, 128, 128, 128, 127}, {255, 255, 255, 255, 255, 127},
			{255, 255, 255, 255, 255, 63},
		},
		"longer than six bytes": {
			{128, 128, 128, 128, 128, 128}, {255, 255, 255, 255, 255, 255},
			{128, 128, 128, 128, 128, 128, 1}, {255, 255, 255, 255, 255, 255, 127},
			{133, 128, 128, 128, 128, 128, 0}, {128, 160, 148, 165, 141, 157, 0},
			{128, 128, 128, 128, 128, 128, 128, 128, 1},
			// In 64 bits, this would wrap around to 5.
			{133, 128, 128, 128, 128, 128, 128, 128, 128, 2},
			{133, 128, 128, 128, 128, 128, 128, 128, 128, 128, 1},
			{255, 255, 255, 255, 255, 255, 255, 255, 255, 1},
			bytes.Repeat([]byte{128}, 1000), append(bytes.Repeat([]byte{255}, 1000), 1),
		},
	}
	for name, list := range texts {
		for _, b := range list {
			if n, next, ok := impl.ReadUvarint(b, 0); ok || n != 0 || next != 0 {
				t.Errorf("%s: ReadUvarint(%v, 0) is %d, %d, %v", name, b, n, next, ok)
			}
			behind := append([]byte{7, 7}, b...)
			if n, next, ok := impl.ReadUvarint(behind, 2); ok || n != 0 || next != 0 {
				t.Errorf("%s: ReadUvarint(%v, 2) is %d, %d, %v", name, behind, n, next, ok)
			}
		}
	}
}

func TestReadUvarintOffsets(t *testing.T) {
	b := []byte{5, 172, 2, 128, 0, 7}
	cases := []struct {
		offset, n, next int
		ok              bool
	}{
		{0, 5, 1, true}, {1, 300, 3, true}, {2, 2, 3, true}, {3, 0, 0, false}, {4, 0, 5, true}, {5, 7, 6, true}, {6, 0, 0, false},
	}
	for _, c := range cases {
		if n, next, ok := impl.ReadUvarint(b, c.offset); n != c.n || next != c.next || ok != c.ok {
			t.Errorf("ReadUvarint(%v, %d) is %d, %d, %v", b, c.offset, n, next, ok)
		}
	}
	for _, b := range [][]byte{nil, {}, {5}, b, b[:3]} {
		for _, offset := range outOf(len(b)) {
			if n, next, ok := impl.ReadUvarint(b, offset); ok || n != 0 || next != 0 {
				t.Errorf("ReadUvarint(%v, %d) is %d, %d, %v", b, offset, n, next, ok)
			}
		}
	}
	// What lies in the spare capacity is not part of the input.
	spare := []byte{9, 128, 1}[:2]
	if n, next, ok := impl.ReadUvarint(spare, 1); ok || n != 0 || next != 0 {
		t.Errorf("ReadUvarint read the spare capacity: %d, %d, %v", n, next, ok)
	}
	if n, next, ok := impl.ReadUvarint(spare, 2); ok || n != 0 || next != 0 {
		t.Errorf("ReadUvarint read the spare capacity: %d, %d, %v", n, next, ok)
	}
}

// checkRead holds ReadUvarint at 0 against the standard library's reading: a
// varint is accepted exactly if it is the one that would be written.
func checkRead(t *testing.T, b []byte) {
	t.Helper()
	want, next := binary.Uvarint(b)
	ok := next > 0 && want <= impl.MaxValue && bytes.Equal(b[:next], binary.AppendUvarint(nil, want))
	if !ok {
		want, next = 0, 0
	}
	if n, gotNext, gotOk := impl.ReadUvarint(b, 0); n != int(want) || gotNext != next || gotOk != ok {
		t.Errorf("ReadUvarint(%v, 0) is %d, %d, %v, not %d, %d, %v", b, n, gotNext, gotOk, want, next, ok)
	}
}

func TestReadUvarintOfShortInputs(t *testing.T) {
	for i := range 1 << 16 {
		checkRead(t, []byte{byte(i)})
		checkRead(t, []byte{byte(i), byte(i >> 8)})
		checkRead(t, []byte{0x80 | byte(i), byte(i >> 8), 0})
		checkRead(t, []byte{0x80, 0xa0, 0x94, 0xa5, byte(i), byte(i >> 8)})
	}
	const some = "\x00\x01\x1d\x7f\x80\x81\xff"
	inputs := [][]byte{nil}
	for len(inputs[0]) < 7 {
		var longer [][]byte
		for _, b := range inputs {
			for i := range len(some) {
				x := append(slices.Clone(b), some[i])
				checkRead(t, x)
				longer = append(longer, x)
			}
		}
		inputs = longer
		if t.Failed() {
			return
		}
	}
}

func TestAppendBytes(t *testing.T) {
	cases := []struct{ b, data, want []byte }{
		{nil, nil, []byte{0}},
		{nil, []byte{}, []byte{0}},
		{[]byte{}, nil, []byte{0}},
		{[]byte{1}, nil, []byte{1, 0}},
		{nil, []byte{0}, []byte{1, 0}},
		{nil, []byte{7, 8}, []byte{2, 7, 8}},
		{[]byte{1}, []byte{7, 8}, []byte{1, 2, 7, 8}},
		{[]byte{128}, []byte{128, 0, 255}, []byte{128, 3, 128, 0, 255}},
	}
	for _, c := range cases {
		if got := impl.AppendBytes(c.b, c.data); !bytes.Equal(got, c.want) {
			t.Errorf("AppendBytes(%v, %v) is %v, not %v", c.b, c.data, got, c.want)
		}
	}
}

func TestReadBytesInvertsAppendBytes(t *testing.T) {
	before, behind := []byte{200, 3}, []byte{128, 9}
	for _, size := range []int{0, 1, 2, 3, 126, 127, 128, 129, 255, 256, 16383, 16384, 16385, 70000} {
		data := make([]byte, size)
		for i := range data {
			data[i] = byte(i*31 + size)
		}
		b := impl.AppendBytes(before, data)
		if want := slices.Concat(before, varintOf(size), data); !bytes.Equal(b, want) {
			t.Errorf("AppendBytes of %d bytes is %d bytes that are wrong", size, len(b))
			continue
		}
		end := len(b)
		b = append(b, behind...)
		for _, maxLen := range []int{size, size + 1, impl.MaxValue, math.MaxInt} {
			got, next, ok := impl.ReadBytes(b, 2, maxLen)
			if !ok || next != end || !bytes.Equal(got, data) {
				t.Errorf("ReadBytes of %d bytes, at most %d, is %d bytes, %d, %v", size, maxLen, len(got), next, ok)
			}
		}
		for _, maxLen := range []int{size - 1, -1, -size - 1, math.MinInt} {
			checkNoBytes(t, b, 2, maxLen)
		}
		for _, cut := range []int{end - 1, end - size - 1, 3, 2} {
			if cut >= 2 && cut < end {
				checkNoBytes(t, b[:cut], 2, math.MaxInt)
			}
		}
	}
}

func checkNoBytes(t *testing.T, b []byte, offset int, maxLen int) {
	t.Helper()
	if data, next, ok := impl.ReadBytes(b, offset, maxLen); ok || next != 0 || len(data) != 0 {
		t.Errorf("ReadBytes(%v of %d bytes, %d, %d) is %d bytes, %d, %v", b[:min(len(b), 20)], len(b), offset, maxLen, len(data), next, ok)
	}
}

func TestReadBytesOfNothing(t *testing.T) {
	for _, maxLen := range []int{0, 1, math.MaxInt} {
		for _, b := range [][]byte{{0}, {0, 5}} {
			if data, next, ok := impl.ReadBytes(b, 0, maxLen); !ok || next != 1 || len(data) != 0 {
				t.Errorf("ReadBytes(%v, 0, %d) is %v, %d, %v", b, maxLen, data, next, ok)
			}
		}
	}
	for _, maxLen := range []int{-1, -2, math.MinInt} {
		checkNoBytes(t, []byte{0}, 0, maxLen)
	}
}

func TestReadBytesRejects(t *testing.T) {
	prefixes := [][]byte{
		nil, {},
		// No valid length.
		{128}, {128, 0}, {129, 0, 7}, {130, 0, 7, 8}, {129, 160, 148, 165, 141, 29, 7}, {129, 128, 128, 128, 128, 128, 0, 7},
		{129, 128, 128, 128, 128, 128, 128, 128, 128, 2, 7},
		// The rest is too short.
		{1}, {2, 7}, {3, 7, 8}, {127}, {127, 7, 8}, {128, 1, 7, 8}, {128, 160, 148, 165, 141, 29, 7},
	}
	for _, b := range prefixes {
		for _, maxLen := range []int{0, 1, 2, 3, 128, impl.MaxValue, math.MaxInt, -1, math.MinInt} {
			checkNoBytes(t, b, 0, maxLen)
			checkNoBytes(t, append([]byte{5, 6}, b...), 2, maxLen)
		}
	}
	for _, b := range [][]byte{nil, {}, {0}, {1, 7}, {2, 7, 8, 9}} {
		checkNoBytes(t, b, len(b), math.MaxInt)
		for _, offset := range outOf(len(b)) {
			checkNoBytes(t, b, offset, 100)
			checkNoBytes(t, b, offset, math.MaxInt)
		}
	}
	// What lies in the spare capacity is not part of the input.
	checkNoBytes(t, []byte{2, 7, 8}[:2], 0, 5)
	checkNoBytes(t, []byte{2, 7, 8}[:1], 0, 5)
}

func TestEncodeInts(t *testing.T) {
	cases := []struct {
		values []int
		want   []byte
	}{
		{nil, nil},
		{[]int{}, nil},
		{[]int{0}, []byte{0}},
		{[]int{5, 300}, []byte{5, 172, 2}},
		{[]int{0, 127, 128, 0}, []byte{0, 127, 128, 1, 0}},
		{[]int{impl.MaxValue}, []byte{128, 160, 148, 165, 141, 29}},
		// Values outside 0 to MaxValue are omitted.
		{[]int{-1}, nil},
		{[]int{impl.MaxValue + 1}, nil},
		{[]int{-1, 5, impl.MaxValue + 1, 300, math.MinInt}, []byte{5, 172, 2}},
		{[]int{math.MaxInt, 1, math.MinInt, 2}, []byte{1, 2}},
	}
	for _, c := range cases {
		if got := impl.EncodeInts(c.values); !bytes.Equal(got, c.want) {
			t.Errorf("EncodeInts(%v) is %v, not %v", c.values, got, c.want)
		}
	}
	var want []byte
	for _, n := range numbersAcross() {
		want = append(want, varintOf(n)...)
	}
	if got := impl.EncodeInts(numbersAcross()); !bytes.Equal(got, want) {
		t.Error("EncodeInts of many numbers is not the varints of all")
	}
}

func checkNoInts(t *testing.T, b []byte, offset int, count int) {
	t.Helper()
	if values, next, ok := impl.DecodeInts(b, offset, count); ok || next != 0 || len(values) != 0 {
		t.Errorf("DecodeInts(%v of %d bytes, %d, %d) is %v, %d, %v", b[:min(len(b), 20)], len(b), offset, count, values, next, ok)
	}
}

func TestDecodeIntsInvertsEncodeInts(t *testing.T) {
	var carried []int
	for _, n := range numbersAcross() {
		if isCarried(n) {
			carried = append(carried, n)
		}
	}
	for size := range 101 {
		values := make([]int, size)
		for i := range values {
			values[i] = carried[(i*size*7+i)%len(carried)]
		}
		b := append([]byte{128}, impl.EncodeInts(values)...)
		end := len(b)
		b = append(b, 128)
		if got, next, ok := impl.DecodeInts(b, 1, size); !ok || next != end || !slices.Equal(got, values) {
			t.Errorf("DecodeInts of %v is %v, %d, %v", values, got, next, ok)
		}
		if size > 0 {
			// One byte less cuts off the last number.
			checkNoInts(t, b[:end-1], 1, size)
		}
		checkNoInts(t, b[:end], 1, size+1)
		checkNoInts(t, b, 1, size+1)
	}
}

func TestDecodeIntsCounts(t *testing.T) {
	b := make([]byte, 200)
	for i := range b {
		b[i] = byte(i % 128)
	}
	for _, count := range []int{0, 1, 2, 99, 100} {
		for _, offset := range []int{0, 1, 50, 100} {
			values, next, ok := impl.DecodeInts(b, offset, count)
			if !ok || next != offset+count || len(values) != count {
				t.Errorf("DecodeInts at %d, %d times, is %v, %d, %v", offset, count, values, next, ok)
				continue
			}
			for i, n := range values {
				if n != (offset+i)%128 {
					t.Errorf("DecodeInts at %d has %d at %d", offset, n, i)
				}
			}
		}
	}
	for _, count := range []int{-1, -2, -100, math.MinInt, 101, 102, 200, impl.MaxValue, math.MaxInt} {
		checkNoInts(t, b, 0, count)
		checkNoInts(t, b, 50, count)
		checkNoInts(t, b, len(b), count)
		checkNoInts(t, nil, 0, count)
	}
	checkNoInts(t, b, 101, 100)
	checkNoInts(t, b, 200, 1)
}

func TestDecodeIntsOffsets(t *testing.T) {
	b := impl.EncodeInts([]int{5, 300, 7})
	for offset := range len(b) + 1 {
		// No numbers can be read everywhere, also at the end.
		if values, next, ok := impl.DecodeInts(b, offset, 0); !ok || next != offset || len(values) != 0 {
			t.Errorf("DecodeInts(%v, %d, 0) is %v, %d, %v", b, offset, values, next, ok)
		}
	}
	if values, next, ok := impl.DecodeInts(nil, 0, 0); !ok || next != 0 || len(values) != 0 {
		t.Errorf("DecodeInts(nil, 0, 0) is %v, %d, %v", values, next, ok)
	}
	if values, next, ok := impl.DecodeInts(b, 1, 2); !ok || next != 4 || !slices.Equal(values, []int{300, 7}) {
		t.Errorf("DecodeInts(%v, 1, 2) is %v, %d, %v", b, values, next, ok)
	}
	for _, b := range [][]byte{nil, {}, b} {
		checkNoInts(t, b, len(b), 1)
		for _, offset := range outOf(len(b)) {
			checkNoInts(t, b, offset, 0)
			checkNoInts(t, b, offset, 1)
			checkNoInts(t, b, offset, 100)
		}
	}
	// What lies in the spare capacity is not part of the input.
	checkNoInts(t, b[:2], 0, 2)
	checkNoInts(t, b[:3], 4, 0)
}

func TestDecodeIntsRejects(t *testing.T) {
	wrong := [][]byte{
		{128}, {128, 0}, {255, 0}, {128, 128, 128, 128, 128, 0}, {128, 128, 128, 128, 128, 128, 1},
		{129, 160, 148, 165, 141, 29}, {255, 255, 255, 255, 255, 127},
	}
	for _, x := range wrong {
		checkNoInts(t, x, 0, 1)
		checkNoInts(t, append([]byte{5, 172, 2}, x...), 0, 3)
		checkNoInts(t, append([]byte{5, 172, 2}, x...), 1, 2)
		if len(x) > 1 {
			// It is not skipped either. (The one byte 128 would be completed by what follows.)
			checkNoInts(t, append(slices.Clone(x), 5, 6, 7), 0, 2)
		}
		// What comes before it is read if no more is asked for.
		b := append([]byte{5, 172, 2}, x...)
		if values, next, ok := impl.DecodeInts(b, 0, 2); !ok || next != 3 || !slices.Equal(values, []int{5, 300}) {
			t.Errorf("DecodeInts(%v, 0, 2) is %v, %d, %v", b, values, next, ok)
		}
	}
}

func TestEqualBytes(t *testing.T) {
	cases := []struct {
		a, b []byte
		want bool
	}{
		{nil, nil, true}, {nil, []byte{}, true}, {[]byte{}, []byte{}, true},
		{nil, []byte{0}, false}, {[]byte{}, []byte{0}, false},
		{[]byte{0}, []byte{0}, true}, {[]byte{0}, []byte{128}, false}, {[]byte{255}, []byte{127}, false},
		{[]byte{1, 2, 3}, []byte{1, 2, 3}, true}, {make([]byte, 3, 9), make([]byte, 3), true},
		{[]byte{1, 2, 3}, []byte{9, 2, 3}, false}, {[]byte{1, 2, 3}, []byte{1, 9, 3}, false}, {[]byte{1, 2, 3}, []byte{1, 2, 9}, false},
		{[]byte{1, 2}, []byte{1, 2, 3}, false}, {[]byte{2, 3}, []byte{1, 2, 3}, false}, {[]byte{1}, []byte{1, 0}, false},
		{[]byte{1, 2}, []byte{2, 1}, false}, {[]byte("a"), []byte("A"), false},
	}
	for _, c := range cases {
		if got := impl.EqualBytes(c.a, c.b); got != c.want {
			t.Errorf("EqualBytes(%v, %v) is %v", c.a, c.b, got)
		}
		if got := impl.EqualBytes(c.b, c.a); got != c.want {
			t.Errorf("EqualBytes(%v, %v) is %v", c.b, c.a, got)
		}
	}
}

// withSpare returns a copy of b with spare capacity that holds a mark.
func withSpare(b []byte) []byte {
	return append(slices.Clone(b), bytes.Repeat([]byte{0xee}, 40)...)[:len(b)]
}

// whole returns b with its spare capacity.
func whole[T any](b []T) []T {
	return b[:cap(b)]
}

// keeps runs use on a list with marked spare capacity. It writes over all memory
// of each result and reports whether this changes the list, in its spare capacity
// too, or another result.
func keeps(t *testing.T, name string, b []byte, use func(b []byte) [][]byte) {
	t.Helper()
	b = withSpare(b)
	before := slices.Clone(whole(b))
	results := use(b)
	if !bytes.Equal(whole(b), before) {
		t.Errorf("%s changes its argument to %v", name, whole(b))
	}
	var contents [][]byte
	for _, r := range results {
		contents = append(contents, slices.Clone(r))
	}
	for i, r := range results {
		for k := range whole(r) {
			whole(r)[k] ^= 0xff
		}
		for k := i + 1; k < len(results); k++ {
			if !bytes.Equal(results[k], contents[k]) {
				t.Errorf("%s: results share memory", name)
			}
		}
	}
	if !bytes.Equal(whole(b), before) {
		t.Errorf("%s: a result shares memory with an argument", name)
	}
}

func TestEncodingsKeepBytes(t *testing.T) {
	lists := [][]byte{nil, {0}, {1}, {1, 7}, {2, 7, 8}, {128}, {128, 0}, {5, 172, 2}, {3, 1, 2, 3, 4, 5}}
	for _, b := range lists {
		for _, n := range []int{-1, 0, 127, 128, impl.MaxValue, impl.MaxValue + 1} {
			keeps(t, "AppendUvarint", b, func(b []byte) [][]byte {
				return [][]byte{impl.AppendUvarint(b, n), impl.AppendUvarint(b, n), impl.AppendUvarint(b, 5)}
			})
		}
		for _, other := range lists {
			keeps(t, "AppendBytes to a list", b, func(b []byte) [][]byte {
				return [][]byte{impl.AppendBytes(b, other), impl.AppendBytes(b, other), impl.AppendBytes(b, []byte{1})}
			})
			keeps(t, "AppendBytes of data", b, func(b []byte) [][]byte {
				return [][]byte{impl.AppendBytes(other, b), impl.AppendBytes(nil, b), impl.AppendBytes(b[:0], b), impl.AppendBytes(b, b)}
			})
			keeps(t, "EqualBytes", b, func(b []byte) [][]byte {
				impl.EqualBytes(b, other)
				impl.EqualBytes(other, b)
				return nil
			})
		}
		keeps(t, "ReadBytes", b, func(b []byte) [][]byte {
			var results [][]byte
			for offset := range len(b) + 2 {
				for _, maxLen := range []int{-1, 0, 2, 9} {
					data, _, _ := impl.ReadBytes(b, offset, maxLen)
					again, _, _ := impl.ReadBytes(b, offset, maxLen)
					results = append(results, data, again)
				}
			}
			return results
		})
		keeps(t, "ReadUvarint and DecodeInts", b, func(b []byte) [][]byte {
			for offset := range len(b) + 2 {
				impl.ReadUvarint(b, offset)
				impl.DecodeInts(b, offset, 2)
			}
			return nil
		})
	}
}

func TestEncodeIntsKeepsValues(t *testing.T) {
	values := append([]int{-1, 5, impl.MaxValue + 1, 300}, 77, 88)[:4]
	before := slices.Clone(whole(values))
	first, second := impl.EncodeInts(values), impl.EncodeInts(values)
	for i := range whole(first) {
		whole(first)[i] ^= 0xff
	}
	if !bytes.Equal(second, []byte{5, 172, 2}) {
		t.Errorf("results share memory: %v", second)
	}
	if !slices.Equal(whole(values), before) {
		t.Errorf("EncodeInts changes its argument to %v", whole(values))
	}
}

func TestDecodeIntsResultsAreTheirOwn(t *testing.T) {
	b := []byte{5, 172, 2}
	for _, count := range []int{2, 1, 0, -1} {
		first, _, _ := impl.DecodeInts(b, 0, count)
		second, _, _ := impl.DecodeInts(b, 0, count)
		before := slices.Clone(whole(second))
		for i := range whole(first) {
			whole(first)[i] += 1000
		}
		if !slices.Equal(whole(second), before) {
			t.Errorf("results of %d numbers share memory: %v", count, second)
		}
	}
}
