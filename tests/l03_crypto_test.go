package tests

import (
	"bytes"
	"math"
	"math/big"
	"slices"
	"strings"
	"testing"

	"loop.example/g03000/impl"
)

// Promise 3: decryption inverts encryption; a keyed hash depends on each of its
// values (chapter 3).

// hashOf follows the document in numbers without bounds.
func hashOf(values ...int) int {
	modulus, factor, term := big.NewInt(impl.Modulus), big.NewInt(1000003), big.NewInt(13)
	acc := big.NewInt(11)
	for _, v := range values {
		rest := new(big.Int).Mod(big.NewInt(int64(v)), modulus)
		acc.Mul(acc, factor).Add(acc, rest).Add(acc, term).Mod(acc, modulus)
	}
	return int(acc.Int64())
}

func keyedHashOf(key int, values ...int) int {
	return hashOf(slices.Concat([]int{key}, values, []int{key})...)
}

// residueOf is what a hash sees of a number.
func residueOf(n int) int {
	return (n%impl.Modulus + impl.Modulus) % impl.Modulus
}

// someKeys returns valid and invalid keys.
func someKeys() []int {
	return []int{
		1, 2, 3, 5, 77, 78, 1 << 30, impl.Modulus - 2, impl.Modulus - 1,
		0, impl.Modulus, impl.Modulus + 1, impl.Modulus + 77, 2 * impl.Modulus, 1 << 32, 1<<32 + 77,
		-1, -2, -77, -impl.Modulus + 1, -impl.Modulus, -impl.Modulus - 1,
		impl.MaxValue, impl.MaxValue + 1, math.MaxInt, math.MinInt, math.MinInt + 1,
	}
}

// someValues returns numbers whose residues are not all different.
func someValues() []int {
	return append(someKeys(), 4, 127, 128, 255, 256, 300, -128, -255, -256, -300)
}

func TestHash(t *testing.T) {
	if impl.Modulus != 2147483647 {
		t.Errorf("Modulus is %d", impl.Modulus)
	}
	hundred := make([]int, 100)
	for i := range hundred {
		hundred[i] = i
	}
	cases := []struct {
		values []int
		want   int
	}{
		{nil, 11},
		{[]int{}, 11},
		{[]int{0}, 11000046},
		{[]int{5}, 11000051},
		{[]int{0, 0}, 667760217},
		{[]int{1, 2}, 668760222},
		{[]int{2, 1}, 669760224},
		// Negative values count by their remainder from 0 to Modulus-1.
		{[]int{-1}, 11000045},
		{[]int{-5}, 11000041},
		{[]int{impl.Modulus - 1}, 11000045},
		{[]int{impl.Modulus}, 11000046},
		{[]int{impl.Modulus + 5}, 11000051},
		{[]int{-impl.Modulus}, 11000046},
		{[]int{-impl.Modulus - 1}, 11000045},
		{[]int{math.MaxInt}, 11000047},
		{[]int{math.MinInt}, 11000044},
		{[]int{math.MinInt, math.MaxInt, 0, -1, 7}, 1516259263},
		{hundred, 1063804406},
	}
	for _, c := range cases {
		if got := impl.Hash(c.values); got != c.want {
			t.Errorf("Hash(%v) is %d, not %d", c.values, got, c.want)
		}
	}
}

// checkHash holds the hashes of values against the document's definition.
func checkHash(t *testing.T, values ...int) {
	t.Helper()
	got, want := impl.Hash(values), hashOf(values...)
	if got != want || got < 0 || got >= impl.Modulus {
		t.Errorf("Hash(%v) is %d, not %d", values, got, want)
	}
	for _, key := range someKeys() {
		if got, want := impl.KeyedHash(key, values), keyedHashOf(key, values...); got != want {
			t.Errorf("KeyedHash(%d, %v) is %d, not %d", key, values, got, want)
		}
	}
}

func TestHashOfManyLists(t *testing.T) {
	values := someValues()
	for n := range len(values) + 1 {
		checkHash(t, values[:n]...)
		checkHash(t, values[n:]...)
	}
	for _, a := range values {
		for _, b := range values {
			checkHash(t, a, b)
		}
		checkHash(t, slices.Repeat([]int{a}, 50)...)
	}
	for n := range 300 {
		checkHash(t, n)
		checkHash(t, -n, n)
	}
}

func TestKeyedHash(t *testing.T) {
	cases := []struct {
		key    int
		values []int
		want   int
	}{
		{77, nil, 744760525}, {77, []int{}, 744760525}, {77, []int{4}, 325116317}, {77, []int{-1, 5}, 393025078},
		{1, []int{4}, 1462866534}, {impl.Modulus - 1, []int{4}, 758141871},
		// Also a key that is not valid gives a hash.
		{0, nil, 667760217}, {0, []int{4}, 36762379}, {0, []int{-1, 5}, 1181147990},
		{impl.Modulus, []int{4}, 36762379}, {-impl.Modulus, []int{4}, 36762379},
		{-1, []int{4}, 758141871}, {-5, []int{4}, 1496176192},
		{math.MaxInt, []int{4}, 1462866534}, {math.MinInt, []int{4}, 1479521363},
	}
	for _, c := range cases {
		if got := impl.KeyedHash(c.key, c.values); got != c.want {
			t.Errorf("KeyedHash(%d, %v) is %d, not %d", c.key, c.values, got, c.want)
		}
	}
	if impl.KeyedHash(3, []int{4}) != impl.Hash([]int{3, 4, 3}) {
		t.Error("KeyedHash is not the Hash of the values between the key and the key")
	}
}

// Modulus is a prime that does not divide the factor, so a hash tells apart any
// two lists that differ, modulo Modulus, in exactly one place.
func TestKeyedHashDependsOnEachValue(t *testing.T) {
	others := someValues()
	for _, size := range []int{1, 2, 3, 10, 40} {
		values := make([]int, size)
		for i := range values {
			values[i] = others[(i*7+size)%len(others)]
		}
		for _, key := range []int{77, 1, impl.Modulus - 1, 0, -5, math.MinInt} {
			want := impl.KeyedHash(key, values)
			for i, v := range values {
				changed := slices.Clone(values)
				for _, w := range append(others, v+1, v-1, v^1, v+impl.Modulus, v-impl.Modulus, v+2*impl.Modulus) {
					changed[i] = w
					same := residueOf(w) == residueOf(v)
					if got := impl.KeyedHash(key, changed); (got == want) != same {
						t.Errorf("KeyedHash(%d, ..) is %d with %d and %d with %d at %d of %d", key, want, v, got, w, i, size)
					}
				}
			}
		}
	}
}

func TestKeyedHashDependsOnKeyLengthAndOrder(t *testing.T) {
	lists := [][]int{nil, {0}, {0, 0}, {0, 0, 0}, {1}, {1, 0}, {0, 1}, {1, 1}, {-1}, {1, 2, 3}, {1, 3, 2}, {2, 1, 3}, {3, 2, 1}}
	met := map[int][2]int{}
	for k := range 60 {
		for i, values := range lists {
			h := impl.KeyedHash(k, values)
			if other, ok := met[h]; ok {
				t.Errorf("KeyedHash(%d, %v) is KeyedHash(%d, %v)", k, values, other[0], lists[other[1]])
			}
			met[h] = [2]int{k, i}
			if got := impl.KeyedHash(k-impl.Modulus, values); got != h {
				t.Errorf("KeyedHash(%d, %v) is %d, not %d", k-impl.Modulus, values, got, h)
			}
		}
	}
}

func TestIsValidKey(t *testing.T) {
	for _, key := range []int{1, 2, 77, 1 << 30, impl.Modulus - 2, impl.Modulus - 1} {
		if !impl.IsValidKey(key) {
			t.Errorf("%d is no key", key)
		}
	}
	for _, key := range []int{
		0, -1, -2, -impl.Modulus + 1, -impl.Modulus, impl.Modulus, impl.Modulus + 1, 2*impl.Modulus - 1,
		1<<32 + 1, impl.MaxValue, math.MaxInt, math.MinInt, math.MinInt + 1,
	} {
		if impl.IsValidKey(key) {
			t.Errorf("%d is a key", key)
		}
	}
}

func TestBytesToInts(t *testing.T) {
	cases := []struct {
		b    []byte
		want []int
	}{
		{nil, []int{0}},
		{[]byte{}, []int{0}},
		{[]byte{0}, []int{1, 0}},
		{[]byte{255}, []int{1, 255}},
		{[]byte{9, 8}, []int{2, 9, 8}},
		{[]byte{127, 128, 0, 200}, []int{4, 127, 128, 0, 200}},
		{[]byte("ab"), []int{2, 97, 98}},
		// What lies in the spare capacity is not part of the input.
		{[]byte{9, 8, 7}[:2], []int{2, 9, 8}},
		{[]byte{9, 8, 7}[:0], []int{0}},
	}
	for _, c := range cases {
		if got := impl.BytesToInts(c.b); !slices.Equal(got, c.want) {
			t.Errorf("BytesToInts(%v) is %v, not %v", c.b, got, c.want)
		}
	}
	for _, size := range []int{127, 128, 255, 256, 257, 1000, 70000} {
		b := longText(size)
		got := impl.BytesToInts(b)
		if len(got) != size+1 || got[0] != size {
			t.Errorf("BytesToInts of %d bytes is %d numbers, first %d", size, len(got), got[0])
			continue
		}
		for i, c := range b {
			if got[i+1] != int(c) {
				t.Errorf("BytesToInts of %d bytes has %d behind %d of them", size, got[i+1], i)
			}
		}
	}
}

// longText returns bytes among which are all values, if there are enough.
func longText(size int) []byte {
	b := make([]byte, size)
	for i := range b {
		b[i] = byte(i*31 + i/256)
	}
	return b
}

// someTexts returns plaintexts that are ciphertexts as well.
func someTexts() [][]byte {
	texts := [][]byte{nil, {}, {0}, {1}, {127}, {128}, {255}, {0, 0}, {255, 255}, []byte("hello"), []byte("\u00e9\u4e16")}
	for _, c := range []byte{0, 1, 128, 255} {
		texts = append(texts, bytes.Repeat([]byte{c}, 40))
	}
	for _, size := range []int{15, 16, 17, 31, 32, 33, 63, 64, 65, 127, 128, 129, 255, 256, 257, 600, 5000} {
		texts = append(texts, longText(size))
	}
	return texts
}

// shifted adds the document's shift of each place, sign times, modulo 256.
func shifted(key int, b []byte, sign int) []byte {
	var out []byte
	for i, c := range b {
		sum := (int(c) + sign*(keyedHashOf(key, i)%256)) % 256
		out = append(out, byte((sum+256)%256))
	}
	return out
}

func TestEncryptAndDecrypt(t *testing.T) {
	cases := []struct {
		key   int
		plain []byte
		want  []byte
	}{
		{77, nil, nil},
		{77, []byte{}, nil},
		{77, []byte("hello"), []byte{249, 57, 131, 198, 12}},
		{1, []byte("hello"), []byte{194, 2, 76, 143, 213}},
		{impl.Modulus - 1, []byte("hello"), []byte{11, 75, 149, 216, 30}},
		// Also a key that is not valid has a stream.
		{0, []byte("hello"), []byte{103, 167, 241, 52, 122}},
		{impl.Modulus, []byte("hello"), []byte{103, 167, 241, 52, 122}},
		{-impl.Modulus, []byte("hello"), []byte{103, 167, 241, 52, 122}},
		{-1, []byte("hello"), []byte{11, 75, 149, 216, 30}},
		{-5, []byte("hello"), []byte{156, 220, 38, 105, 175}},
		{math.MaxInt, []byte("hello"), []byte{194, 2, 76, 143, 213}},
		{math.MinInt, []byte("hello"), []byte{175, 239, 57, 124, 194}},
		// What lies in the spare capacity is not part of the input.
		{77, []byte("hello")[:2], []byte{249, 57}},
		{77, []byte("hello")[:0], nil},
	}
	for _, c := range cases {
		if got := impl.Encrypt(c.key, c.plain); !bytes.Equal(got, c.want) {
			t.Errorf("Encrypt(%d, %q) is %v, not %v", c.key, c.plain, got, c.want)
		}
		if got := impl.Decrypt(c.key, c.want); !bytes.Equal(got, c.plain) {
			t.Errorf("Decrypt(%d, %v) is %v, not %q", c.key, c.want, got, c.plain)
		}
	}
	for _, key := range someKeys() {
		for _, b := range someTexts() {
			if got, want := impl.Encrypt(key, b), shifted(key, b, 1); !bytes.Equal(got, want) {
				t.Errorf("Encrypt(%d, ..) of %d bytes is wrong", key, len(b))
			}
			if got, want := impl.Decrypt(key, b), shifted(key, b, -1); !bytes.Equal(got, want) {
				t.Errorf("Decrypt(%d, ..) of %d bytes is wrong", key, len(b))
			}
		}
	}
}

func TestEncryptOfEveryByteAtEveryPlace(t *testing.T) {
	for place := range 70 {
		for _, key := range []int{77, 0, -1, impl.Modulus - 1} {
			shift := keyedHashOf(key, place) % 256
			for c := range 256 {
				b := append(make([]byte, place), byte(c))
				if got := int(impl.Encrypt(key, b)[place]); got != (c+shift)%256 {
					t.Errorf("Encrypt(%d, ..) makes %d of %d at %d", key, got, c, place)
				}
				if got := int(impl.Decrypt(key, b)[place]); got != (c-shift+256)%256 {
					t.Errorf("Decrypt(%d, ..) makes %d of %d at %d", key, got, c, place)
				}
			}
		}
	}
}

func TestDecryptInvertsEncrypt(t *testing.T) {
	texts := append(someTexts(), longText(70000))
	for _, key := range someKeys() {
		for _, b := range texts {
			if got := impl.Decrypt(key, impl.Encrypt(key, b)); !bytes.Equal(got, b) {
				t.Errorf("key %d: %d bytes are not decrypted from what was encrypted", key, len(b))
			}
			if got := impl.Encrypt(key, impl.Decrypt(key, b)); !bytes.Equal(got, b) {
				t.Errorf("key %d: %d bytes are not encrypted from what was decrypted", key, len(b))
			}
		}
	}
}

func TestDecryptWithAnotherKey(t *testing.T) {
	plain := longText(300)
	for _, key := range someKeys() {
		for _, other := range someKeys() {
			// Keys that are equal modulo Modulus have the same stream.
			same := residueOf(key) == residueOf(other)
			got := impl.Decrypt(other, impl.Encrypt(key, plain))
			if bytes.Equal(got, plain) != same || !bytes.Equal(got, shifted(other, shifted(key, plain, 1), -1)) {
				t.Errorf("Decrypt(%d, ..) of Encrypt(%d, ..) is wrong", other, key)
			}
			got = impl.Encrypt(other, impl.Decrypt(key, plain))
			if bytes.Equal(got, plain) != same || !bytes.Equal(got, shifted(other, shifted(key, plain, -1), 1)) {
				t.Errorf("Encrypt(%d, ..) of Decrypt(%d, ..) is wrong", other, key)
			}
		}
	}
}

func TestDeriveFromString(t *testing.T) {
	cases := []struct {
		key   int
		label string
		want  int
	}{
		{5, "", 720832201}, {5, "ab", 1905036959}, {0, "", 32762367}, {-1, "key", 1819853227},
		{impl.Modulus - 1, "key", 1819853227}, {impl.Modulus, "", 32762367},
		// The bytes count, not the characters, and they may be any.
		{7, "\u00e9", 1061973629}, {7, "\xff\x80\x00", 712874060},
	}
	for _, c := range cases {
		if got := impl.DeriveFromString(c.key, c.label); got != c.want {
			t.Errorf("DeriveFromString(%d, %q) is %d, not %d", c.key, c.label, got, c.want)
		}
	}
	labels := []string{
		"", "a", "b", "ab", "ba", "abc", " ", "\x00", "\x00\x00", "\x7f", "\x80", "\xff", "\xff\xfe\x00",
		"\u00e9", "e\u0301", "\u4e16\u754c", "\U0001f600", "\xc3", strings.Repeat("x", 300), string(longText(5000)),
	}
	for _, key := range someKeys() {
		met := map[int]string{}
		for _, label := range labels {
			values := []int{len(label)}
			for i := range len(label) {
				values = append(values, int(label[i]))
			}
			got := impl.DeriveFromString(key, label)
			if want := keyedHashOf(key, values...); got != want {
				t.Errorf("DeriveFromString(%d, %q) is %d, not %d", key, label, got, want)
			}
			if other, ok := met[got]; ok {
				t.Errorf("DeriveFromString(%d, ..) is the same for %q and %q", key, label, other)
			}
			met[got] = label
		}
	}
}

func TestDeriveFromStringIsAlwaysAKey(t *testing.T) {
	// A keyed hash is linear in its key, modulo Modulus, so the keys whose hash of
	// the label is 0 and 1 can be calculated.
	cases := []struct {
		label     string
		zero, one int
		values    []int
	}{
		{"", 1310415589, 185075670, []int{0}},
		{"ab", 916074962, 1778320862, []int{2, 97, 98}},
		{"\xc8", 1927191371, 1038455215, []int{1, 200}},
	}
	for _, c := range cases {
		for _, away := range []int{0, impl.Modulus, -impl.Modulus, -2 * impl.Modulus} {
			if got := impl.KeyedHash(c.zero+away, c.values); got != 0 {
				t.Errorf("KeyedHash(%d, %v) is %d, not 0", c.zero+away, c.values, got)
			}
			for _, key := range []int{c.zero + away, c.one + away} {
				if got := impl.DeriveFromString(key, c.label); got != 1 {
					t.Errorf("DeriveFromString(%d, %q) is %d, not 1", key, c.label, got)
				}
			}
			for _, near := range []int{-2, -1, 1, 2} {
				key := c.zero + away + near
				if got := impl.DeriveFromString(key, c.label); got != keyedHashOf(key, c.values...) || !impl.IsValidKey(got) {
					t.Errorf("DeriveFromString(%d, %q) is %d", key, c.label, got)
				}
			}
		}
	}
}

func TestCryptoKeepsBytes(t *testing.T) {
	for _, b := range someTexts() {
		for _, key := range []int{77, 0, -1, impl.Modulus} {
			keeps(t, "Encrypt", b, func(b []byte) [][]byte {
				return [][]byte{impl.Encrypt(key, b), impl.Encrypt(key, b), impl.Encrypt(key, b[:len(b)/2])}
			})
			keeps(t, "Decrypt", b, func(b []byte) [][]byte {
				return [][]byte{impl.Decrypt(key, b), impl.Decrypt(key, b), impl.Decrypt(key, b[:len(b)/2])}
			})
		}
		keeps(t, "BytesToInts", b, func(b []byte) [][]byte {
			first, second := impl.BytesToInts(b), impl.BytesToInts(b)
			before := slices.Clone(second)
			for i := range whole(first) {
				whole(first)[i] += 1000
			}
			if !slices.Equal(second, before) {
				t.Errorf("BytesToInts: results of %d bytes share memory", len(b))
			}
			return nil
		})
	}
}

func TestHashesKeepValues(t *testing.T) {
	for _, size := range []int{0, 1, 3, 5} {
		values := []int{-1, 5, impl.Modulus, math.MinInt, 300, 77, 88, 99}[:size]
		before := slices.Clone(whole(values))
		impl.Hash(values)
		impl.KeyedHash(77, values)
		impl.KeyedHash(-77, values)
		if !slices.Equal(whole(values), before) {
			t.Errorf("a hash changes its argument to %v", whole(values))
		}
	}
}

// What one call has met is not known to another.
func TestCryptoKeepsNoState(t *testing.T) {
	texts := someTexts()
	for range 2 {
		for i, b := range texts {
			for _, key := range []int{77, 78, 77 + impl.Modulus, 0} {
				if got := impl.Encrypt(key, b); !bytes.Equal(got, shifted(key, b, 1)) {
					t.Errorf("Encrypt(%d, ..) of %d bytes is wrong after other calls", key, len(b))
				}
				other := texts[len(texts)-1-i]
				if got := impl.Decrypt(key+1, other); !bytes.Equal(got, shifted(key+1, other, -1)) {
					t.Errorf("Decrypt(%d, ..) of %d bytes is wrong after other calls", key+1, len(other))
				}
			}
		}
	}
}

func TestEqualInts(t *testing.T) {
	cases := []struct {
		name string
		a, b []int
		want bool
	}{
		{"nil and nil", nil, nil, true},
		{"nil and empty", nil, []int{}, true},
		{"empty and empty", []int{}, []int{}, true},
		{"nil and zero", nil, []int{0}, false},
		{"empty and one", []int{}, []int{5}, false},
		{"one", []int{5}, []int{5}, true},
		{"another one", []int{5}, []int{6}, false},
		{"opposite signs", []int{5}, []int{-5}, false},
		{"equal", []int{1, 2, 3}, []int{1, 2, 3}, true},
		{"other first", []int{1, 2, 3}, []int{9, 2, 3}, false},
		{"other middle", []int{1, 2, 3}, []int{1, 9, 3}, false},
		{"other last", []int{1, 2, 3}, []int{1, 2, 9}, false},
		{"other order", []int{1, 2, 3}, []int{1, 3, 2}, false},
		{"beginning", []int{1, 2}, []int{1, 2, 3}, false},
		{"end", []int{2, 3}, []int{1, 2, 3}, false},
		{"zero behind", []int{1}, []int{1, 0}, false},
		{"repeated", []int{1}, []int{1, 1}, false},
		{"greatest and least", []int{math.MaxInt, math.MinInt}, []int{math.MaxInt, math.MinInt}, true},
		{"greatest or least", []int{math.MaxInt}, []int{math.MinInt}, false},
		{"equal low bits", []int{1}, []int{1 + 1<<32}, false},
	}
	for _, c := range cases {
		if got := impl.EqualInts(c.a, c.b); got != c.want {
			t.Errorf("%s: EqualInts(%v, %v) is %v", c.name, c.a, c.b, got)
		}
		if got := impl.EqualInts(c.b, c.a); got != c.want {
			t.Errorf("%s: EqualInts(%v, %v) is %v", c.name, c.b, c.a, got)
		}
	}
	long := make([]int, 3, 9)
	if !impl.EqualInts(long, make([]int, 3)) {
		t.Error("capacities count")
	}
}

func TestEqualIntsKeepsArguments(t *testing.T) {
	a, b := []int{1, 2, 3, 77}[:3], []int{1, 2, 4, 88}[:3]
	impl.EqualInts(a, b)
	for i, want := range []int{1, 2, 3, 77} {
		if a[:4][i] != want {
			t.Errorf("a is now %v", a[:4])
		}
	}
	for i, want := range []int{1, 2, 4, 88} {
		if b[:4][i] != want {
			t.Errorf("b is now %v", b[:4])
		}
	}
}
