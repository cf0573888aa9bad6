package tests

import (
	"fmt"
	"math"
	"math/big"
	"math/rand/v2"
	"slices"
	"testing"

	"loop.example/g03000/impl"
)

// Promise 16: other transcripts have other values (chapter 16).

func transcript(messages ...[]int) [][]int {
	return messages
}

func isTranscriptOf(l [][]int) bool {
	all := slices.Concat(append(slices.Clone(l), bytesOf(0))...)
	return len(l) < 13 && slices.Min(all) >= 0 && slices.Max(all) < 256
}

// transcriptHashOf goes from the last message to the first one, as the chapter does.
func transcriptHashOf(l [][]int) int {
	switch last := len(l) - 1; {
	case last < 0:
		return 1
	case !isTranscriptOf(l):
		return 0
	default:
		return hashOf(slices.Concat(bytesOf(transcriptHashOf(l[:last]), len(l[last])), l[last])...)
	}
}

func finishOf(key int, l [][]int, side int) int {
	if key < 1 || key >= impl.Modulus || !isTranscriptOf(l) || side != 0 && side != 1 {
		return 0
	}
	return keyedHashOf(key, side, transcriptHashOf(l))
}

// transcriptText is the same for lists of the same messages alone.
func transcriptText(l [][]int) string {
	return fmt.Sprint(l)
}

func cloneTranscript(l [][]int) [][]int {
	var out [][]int
	for _, message := range l {
		out = append(out, slices.Clone(message))
	}
	return out
}

func checkIsTranscript(t *testing.T, name string, l [][]int, want bool) {
	t.Helper()
	if got := impl.IsTranscript(l); got != want {
		t.Errorf("%s: IsTranscript(%.300s) is %v", name, transcriptText(l), got)
	}
}

func checkTranscriptHash(t *testing.T, name string, l [][]int, want int) {
	t.Helper()
	if got := impl.TranscriptHash(l); got != want {
		t.Errorf("%s: TranscriptHash(%.300s) is %d, not %d", name, transcriptText(l), got, want)
	}
}

// checkFinish asks for all that FinishOf and ChecksOut say of a key and a side.
func checkFinish(t *testing.T, name string, key int, l [][]int, side int, want int) {
	t.Helper()
	if got := impl.FinishOf(key, l, side); got != want {
		t.Errorf("%s: FinishOf(%d, %.300s, %d) is %d, not %d", name, key, transcriptText(l), side, got, want)
	}
	hash := transcriptHashOf(l)
	for _, finish := range bytesOf(
		want, want+1, want-1, -want, want+impl.Modulus, want-impl.Modulus, want+1<<32, 0, 1, -1, impl.Modulus,
		hash, keyedHashOf(key, hash), keyedHashOf(key, side, hash), keyedHashOf(key, 1-side, hash), math.MaxInt, math.MinInt,
	) {
		checkChecksOut(t, name, key, l, side, finish, want != 0 && finish == want)
	}
}

func checkChecksOut(t *testing.T, name string, key int, l [][]int, side int, finish int, want bool) {
	t.Helper()
	if got := impl.ChecksOut(key, l, side, finish); got != want {
		t.Errorf("%s: ChecksOut(%d, %.300s, %d, %d) is %v", name, key, transcriptText(l), side, finish, got)
	}
}

// checkSame asks from both sides.
func checkSame(t *testing.T, name string, a [][]int, b [][]int, want bool) {
	t.Helper()
	if got := impl.SameTranscripts(a, b); got != want {
		t.Errorf("%s: SameTranscripts(%.300s, %.300s) is %v", name, transcriptText(a), transcriptText(b), got)
	}
	if got := impl.SameTranscripts(b, a); got != want {
		t.Errorf("%s: SameTranscripts(%.300s, %.300s) is %v", name, transcriptText(b), transcriptText(a), got)
	}
}

// checkMessages holds all that the program says of it against what the test
// works out.
func checkMessages(t *testing.T, name string, l [][]int, keys []int, sides []int) {
	t.Helper()
	checkIsTranscript(t, name, l, isTranscriptOf(l))
	checkTranscriptHash(t, name, l, transcriptHashOf(l))
	for _, key := range keys {
		for _, side := range sides {
			checkFinish(t, name, key, l, side, finishOf(key, l, side))
		}
	}
	checkSame(t, name, l, l, true)
	checkSame(t, name, l, cloneTranscript(l), true)
}

// checkOther holds the values of two transcripts against each other and reports whether
// they have one hash.
func checkOther(t *testing.T, name string, a [][]int, b [][]int) bool {
	t.Helper()
	equal := transcriptHashOf(a) == transcriptHashOf(b)
	checkSame(t, name, a, b, transcriptText(a) == transcriptText(b))
	if got := impl.TranscriptHash(a) == impl.TranscriptHash(b); got != equal {
		t.Errorf("%s: TranscriptHash of %.300s and of %.300s: %v", name, transcriptText(a), transcriptText(b), got)
	}
	for _, key := range bytesOf(1, 77, impl.Modulus-1) {
		for side := range 2 {
			checkChecksOut(t, name, key, b, side, impl.FinishOf(key, a, side), equal)
			checkChecksOut(t, name, key, a, side, impl.FinishOf(key, b, side), equal)
		}
	}
	return equal
}

func twoSides() []int {
	return bytesOf(0, 1)
}

// sideLimits returns both sides and numbers that are none.
func sideLimits() []int {
	return append(someNumbers(), -impl.Modulus, impl.Modulus, impl.Modulus+1, -impl.Modulus+1)
}

func fewKeys() []int {
	return bytesOf(1, 77, impl.Modulus-1, 0, -1, impl.Modulus)
}

// rows returns so many messages of one length, which the bytes tell apart.
func rows(count int, size int) [][]int {
	l := transcript()
	for i := range count {
		var message []int
		for k := range size {
			message = append(message, (i*37+k*11+255)%256)
		}
		l = append(l, message)
	}
	return l
}

// someTranscripts returns valid lists: without messages, without bytes, short, long and
// with as many messages as there may be.
func someTranscripts() [][][]int {
	lists := [][][]int{
		nil, {}, {nil}, {{}}, {nil, {}}, {{}, nil, {}}, {{0}}, {{1}}, {{255}}, {{0}, {0}}, {{255}, {255}}, {{0, 0}}, {{0, 255}}, {{255, 0}},
		{{1, 2}, {}, {255}}, {{}, {1, 2}, {255}}, {{1, 2}, {255}, {}}, {{1}, {2}, {3}}, {{3}, {2}, {1}}, {{1}, {1}, {2}},
		{{1}, {1, 1}, {1, 1, 1}}, {{7, 8, 9}, {0}, {9, 8, 7}}, {{5}, {}, {}, {5}},
		// Messages that look like the number of bytes and the bytes of others.
		{{0}, {1, 0}}, {{1, 0}, {0}}, {{2, 5, 6}, {5, 6}}, {{1}, {0}, {1, 1}}, {{2}, {1, 2}, {2, 1, 2}},
		make([][]int, 11), make([][]int, 12), {longBody(256)}, {longBody(255), {}, longBody(3)},
	}
	for _, count := range bytesOf(1, 2, 5, 11, 12) {
		for _, size := range bytesOf(1, 2, 4, 9) {
			lists = append(lists, rows(count, size))
		}
	}
	return lists
}

// noTranscripts returns lists of too many messages and of numbers that are no bytes.
func noTranscripts() [][][]int {
	lists := [][][]int{make([][]int, 13), make([][]int, 14), make([][]int, 100), rows(13, 1), rows(13, 4), append(make([][]int, 12), bytesOf(0)), append(make([][]int, 12), bytesOf(256))}
	for _, n := range bytesOf(-1, 256, math.MinInt, math.MaxInt, 1<<32, 1<<32+5, -256, impl.Modulus) {
		lists = append(lists, transcript(bytesOf(n)), transcript(bytesOf(n), nil), transcript(nil, bytesOf(n)),
			transcript(bytesOf(1, n), bytesOf(2), bytesOf(3)), transcript(bytesOf(1), bytesOf(n, 2), bytesOf(3)), transcript(bytesOf(1), bytesOf(2), bytesOf(3, n, 3)))
	}
	return lists
}

func TestTranscriptLimits(t *testing.T) {
	if impl.MaxTranscript != 12 {
		t.Errorf("MaxTranscript is %d", impl.MaxTranscript)
	}
}

func TestIsTranscript(t *testing.T) {
	cases := []struct {
		name string
		l    [][]int
		want bool
	}{
		{"nil", nil, true},
		{"no messages", transcript(), true},
		{"a nil message", transcript(nil), true},
		{"an empty message", transcript(bytesOf()), true},
		{"several empty messages", transcript(nil, bytesOf(), nil), true},
		{"the least byte", transcript(bytesOf(0)), true},
		{"the greatest byte", transcript(bytesOf(255)), true},
		{"both", transcript(bytesOf(0, 255), bytesOf(255, 0)), true},
		{"equal messages", transcript(bytesOf(5), bytesOf(5)), true},
		{"a long message", transcript(slices.Repeat(bytesOf(255), 70000)), true},
		{"eleven empty messages", make([][]int, 11), true},
		{"as many messages as there may be", rows(12, 3), true},
		{"as many empty messages", make([][]int, 12), true},
		{"one message more", rows(13, 3), false},
		{"one empty message more", make([][]int, 13), false},
		{"an empty message behind", append(rows(12, 3), nil), false},
		{"many messages", make([][]int, 100000), false},
		{"below the least byte", transcript(bytesOf(-1)), false},
		{"above the greatest byte", transcript(bytesOf(256)), false},
		{"the least int", transcript(bytesOf(math.MinInt)), false},
		{"the greatest int", transcript(bytesOf(math.MaxInt)), false},
		{"a byte by its low bits", transcript(bytesOf(1<<32 + 7)), false},
		{"a byte modulo 256", transcript(bytesOf(256 + 7)), false},
		{"a byte by its sum", transcript(bytesOf(-1, 256)), false},
		{"in the first message", transcript(bytesOf(1, 2, -1), nil, bytesOf(3)), false},
		{"in a middle message", transcript(bytesOf(1), bytesOf(256, 1), bytesOf(3)), false},
		{"in the last message", transcript(bytesOf(1), nil, bytesOf(3, 256, 3)), false},
		{"at the end of a long message", transcript(append(make([]int, 70000), 256)), false},
		// What lies in the spare capacity is no part of the list.
		{"in the spare capacity of a message", transcript(bytesOf(1, 2, 777)[:2]), true},
		{"in the spare capacity of the list", transcript(bytesOf(1), bytesOf(777))[:1], true},
		{"messages in the spare capacity", rows(20, 1)[:12], true},
	}
	for _, c := range cases {
		checkIsTranscript(t, c.name, c.l, c.want)
		if isTranscriptOf(c.l) != c.want {
			t.Errorf("%s: the test holds another answer", c.name)
		}
	}
	for count := range 40 {
		for size := range 3 {
			checkIsTranscript(t, "rows", rows(count, size), count <= impl.MaxTranscript)
		}
	}
}

func TestIsTranscriptOfEveryNumber(t *testing.T) {
	numbers := byteLimits()
	for n := -600; n <= 1200; n++ {
		numbers = append(numbers, n)
	}
	for _, n := range numbers {
		for _, l := range [][][]int{{{n}}, {{n}, {0}}, {{0}, {n}}, {{1, n, 2}}, {nil, {n, 2}, nil}, {nil, {2, n}, nil}} {
			checkIsTranscript(t, "any number", l, n >= 0 && n <= 255)
		}
	}
}

func TestTranscriptValues(t *testing.T) {
	digits := transcript()
	for i := range 12 {
		digits = append(digits, bytesOf(i))
	}
	cases := []struct {
		name string
		l    [][]int
		// The hash, the finishes of both sides with the key 77, and one with the least
		// and one with the greatest key.
		hash, client, server, least, greatest int
	}{
		{"nil", nil, 1, 1815129220, 1093749727, 1505330247, 832310877},
		{"no messages", transcript(), 1, 1815129220, 1093749727, 1505330247, 832310877},
		{"an empty message", transcript(bytesOf()), 668760220, 1125512078, 404132585, 815713105, 142693735},
		{"a nil message", transcript(nil), 668760220, 1125512078, 404132585, 815713105, 142693735},
		{"two empty messages", transcript(nil, bytesOf()), 2126626725, 1190738115, 469358622, 880939142, 207919772},
		{"three empty messages", transcript(nil, nil, nil), 44369115, 1902605895, 1181226402, 1592806922, 919787552},
		{"as many empty messages as there may be", make([][]int, 12), 1819819063, 1449478372, 728098879, 1139679399, 466660029},
		{"the least byte", transcript(bytesOf(0)), 1459866524, 449596307, 1875700461, 139797334, 1614261611},
		{"the greatest byte", transcript(bytesOf(255)), 1459866779, 704597072, 2130701226, 394798099, 1869262376},
		{"two messages", transcript(bytesOf(0), bytesOf(255)), 2056755106, 2037545697, 1316166204, 1727746724, 1054727354},
		{"the other way round", transcript(bytesOf(255), bytesOf(0)), 641094131, 985338112, 263958619, 675539139, 2519769},
		{"one message", transcript(bytesOf(0, 255)), 61571512, 859716969, 138337476, 549917996, 2024382273},
		{"reversed", transcript(bytesOf(255, 0)), 316572022, 1336539131, 615159638, 1026740158, 353720788},
		{"an empty message between", transcript(bytesOf(1, 2), nil, bytesOf(255)), 840906325, 1162839579, 441460086, 853040606, 180021236},
		{"an empty message in front", transcript(nil, bytesOf(1, 2), bytesOf(255)), 2087029954, 1751914835, 1030535342, 1442115862, 769096492},
		{"an empty message behind", transcript(bytesOf(1, 2), bytesOf(255), nil), 1021525228, 53114412, 1479218566, 1890799086, 1217779716},
		{"without an empty message", transcript(bytesOf(1, 2), bytesOf(255)), 692160174, 20410581, 1446514735, 1858095255, 1185075885},
		{"divided elsewhere", transcript(bytesOf(1), bytesOf(2, 255)), 298598257, 1955743226, 1234363733, 1645944253, 972924883},
		{"not divided", transcript(bytesOf(1, 2, 255)), 1268253176, 50127132, 1476231286, 1887811806, 1214792436},
		{"as many messages as there may be", digits, 572939647, 985379499, 264000006, 675580526, 2561156},
		{"as many of the greatest byte", slices.Repeat(transcript(bytesOf(255)), 12), 360021810, 1218258744, 496879251, 908459771, 235440401},
		{"a long message", transcript(make([]int, 300)), 1355990074, 1766939641, 1045560148, 1457140668, 784121298},
		// A hash may be any number, also what stands for no messages or for a failure.
		{"the hash 0", transcript(bytesOf(211, 48, 21, 75)), 0, 1814129217, 1092749724, 1504330244, 831310874},
		{"the hash 1", transcript(bytesOf(211, 48, 21, 76)), 1, 1815129220, 1093749727, 1505330247, 832310877},
		{"the hash 0 of two messages", transcript(nil, bytesOf(19, 122, 121, 243)), 0, 1814129217, 1092749724, 1504330244, 831310874},
	}
	for _, c := range cases {
		checkIsTranscript(t, c.name, c.l, true)
		checkTranscriptHash(t, c.name, c.l, c.hash)
		checkFinish(t, c.name, 77, c.l, 0, c.client)
		checkFinish(t, c.name, 77, c.l, 1, c.server)
		checkFinish(t, c.name, 1, c.l, 0, c.least)
		checkFinish(t, c.name, impl.Modulus-1, c.l, 1, c.greatest)
		checkMessages(t, c.name, c.l, someKeys(), sideLimits())
	}
}

// The value of a transcript is worked out message by message.
func TestTranscriptHashOfBeginnings(t *testing.T) {
	for _, l := range someTranscripts() {
		hash := 1
		for i, message := range l {
			checkTranscriptHash(t, "a beginning", l[:i], hash)
			hash = impl.Hash(slices.Concat(bytesOf(hash, len(message)), message))
		}
		checkTranscriptHash(t, "the whole", l, hash)
	}
}

func TestTranscripts(t *testing.T) {
	for _, l := range someTranscripts() {
		checkMessages(t, "valid", l, someKeys(), sideLimits())
	}
}

func TestNoTranscripts(t *testing.T) {
	for _, l := range noTranscripts() {
		checkIsTranscript(t, "not valid", l, false)
		checkTranscriptHash(t, "not valid", l, 0)
		for _, key := range someKeys() {
			for _, side := range sideLimits() {
				checkFinish(t, "not valid", key, l, side, 0)
			}
		}
		checkMessages(t, "not valid", l, fewKeys(), twoSides())
	}
}

// Keys and sides that are not valid have no finish, whatever the transcript is.
func TestFinishOfNoKeyAndNoSide(t *testing.T) {
	for _, l := range append(someTranscripts(), transcript(bytesOf(211, 48, 21, 75))) {
		for _, key := range someKeys() {
			for _, side := range sideLimits() {
				if key < 1 || key > impl.Modulus-1 || side < 0 || side > 1 {
					checkFinish(t, "not valid", key, l, side, 0)
				} else if impl.FinishOf(key, l, side) == 0 {
					t.Errorf("FinishOf(%d, %v, %d) is 0", key, l, side)
				}
			}
		}
	}
}

// eachMessages calls use with every list of at most most messages, of at most size
// numbers of an alphabet each.
func eachMessages(alphabet []int, size int, most int, use func(l [][]int)) {
	var messages [][]int
	var places []int
	eachList(alphabet, size, func(b []int) {
		places = append(places, len(messages))
		messages = append(messages, b)
	})
	eachList(places, most, func(chosen []int) {
		l := transcript()
		for _, i := range chosen {
			l = append(l, messages[i])
		}
		use(l)
	})
}

// No two short transcripts have the same value.
func TestEveryShortTranscript(t *testing.T) {
	met, finishes := map[int][][]int{}, map[int][][]int{}
	eachMessages(bytesOf(0, 1, 255), 2, 3, func(l [][]int) {
		checkMessages(t, "short", l, bytesOf(77), twoSides())
		hash, finish := impl.TranscriptHash(l), impl.FinishOf(77, l, 0)
		if other, ok := met[hash]; ok {
			t.Errorf("TranscriptHash of %v is that of %v", l, other)
		}
		if other, ok := finishes[finish]; ok {
			t.Errorf("FinishOf of %v is that of %v", l, other)
		}
		met[hash], finishes[finish] = l, l
	})
	if len(met) != 1+13+13*13+13*13*13 {
		t.Errorf("there are %d transcripts", len(met))
	}
}

// Any list of numbers, bytes or not, is judged as a whole.
func TestEveryShortListOfNumbers(t *testing.T) {
	valid, wrong := 0, 0
	eachMessages(bytesOf(-1, 0, 255, 256, math.MinInt), 1, 3, func(l [][]int) {
		checkMessages(t, "any numbers", l, bytesOf(1, 0), bytesOf(0, 1, 2))
		if isTranscriptOf(l) {
			valid++
		} else {
			wrong++
		}
	})
	if valid != 1+3+9+27 || wrong != 6+36+216-3-9-27 {
		t.Errorf("%d lists are valid and %d are not", valid, wrong)
	}
}

// putMessages returns l with others in the place of the messages from i to j - 1.
func putMessages(l [][]int, i int, j int, others ...[]int) [][]int {
	return slices.Concat(l[:i], others, l[j:])
}

// eachByteChange calls use with lists in which one byte is another one.
func eachByteChange(l [][]int, use func(name string, changed [][]int)) {
	for i, message := range l {
		for k, n := range message {
			for _, other := range bytesOf((n+1)%256, (n+255)%256, n^128, 255-n, 0, 255) {
				changed := cloneTranscript(l)
				changed[i][k] = other
				use(fmt.Sprintf("the byte %d of the message %d", k, i), changed)
			}
		}
	}
}

// eachOrder calls use with lists of the same messages in another order, and of messages
// of the same bytes.
func eachOrder(l [][]int, use func(name string, changed [][]int)) {
	for i := range l {
		for k := range i {
			changed := slices.Clone(l)
			changed[i], changed[k] = l[k], l[i]
			use(fmt.Sprintf("the messages %d and %d", k, i), changed)
		}
		turned := slices.Clone(l[i])
		slices.Reverse(turned)
		use(fmt.Sprintf("the message %d reversed", i), putMessages(l, i, i+1, turned))
	}
	turned := slices.Clone(l)
	slices.Reverse(turned)
	use("all messages reversed", turned)
}

// eachDivision calls use with lists of the same bytes in other messages.
func eachDivision(l [][]int, use func(name string, changed [][]int)) {
	for i, message := range l {
		for k := range len(message) + 1 {
			use(fmt.Sprintf("the message %d divided at %d", i, k), putMessages(l, i, i+1, message[:k], message[k:]))
			if i > 0 {
				use(fmt.Sprintf("%d bytes of the message %d in the one before", k, i), putMessages(l, i-1, i+1, slices.Concat(l[i-1], message[:k]), message[k:]))
			}
			if i+1 < len(l) {
				use(fmt.Sprintf("the bytes from %d of the message %d in the next one", k, i), putMessages(l, i, i+2, message[:k], slices.Concat(message[k:], l[i+1])))
			}
		}
		if i > 0 {
			use(fmt.Sprintf("the message %d joined with the one before", i), putMessages(l, i-1, i+1, slices.Concat(l[i-1], message)))
		}
	}
	use("all messages in one", transcript(slices.Concat(l...)))
}

// eachLength calls use with lists of more or fewer messages or bytes.
func eachLength(l [][]int, use func(name string, changed [][]int)) {
	for i := range len(l) + 1 {
		for _, more := range transcript(nil, bytesOf(), bytesOf(0), bytesOf(255)) {
			use(fmt.Sprintf("the message %v at %d", more, i), putMessages(l, i, i, more))
		}
		use(fmt.Sprintf("the first %d messages", i), l[:i])
		use(fmt.Sprintf("the messages from %d", i), l[i:])
	}
	for i, message := range l {
		use(fmt.Sprintf("the message %d again", i), putMessages(l, i, i, message))
		use(fmt.Sprintf("without the message %d", i), putMessages(l, i, i+1))
		use(fmt.Sprintf("the message %d emptied", i), putMessages(l, i, i+1, nil))
		for _, more := range bytesOf(0, 255, len(message)%256) {
			use(fmt.Sprintf("the byte %d in front of the message %d", more, i), putMessages(l, i, i+1, append(bytesOf(more), message...)))
			use(fmt.Sprintf("the byte %d behind the message %d", more, i), putMessages(l, i, i+1, append(slices.Clone(message), more)))
		}
		if len(message) > 0 {
			use(fmt.Sprintf("without the first byte of the message %d", i), putMessages(l, i, i+1, message[1:]))
			use(fmt.Sprintf("without the last byte of the message %d", i), putMessages(l, i, i+1, message[:len(message)-1]))
		}
	}
}

// otherTranscripts leaves out what is the same as l and what is no transcript.
func otherTranscripts(l [][]int, use func(name string, changed [][]int)) {
	text := transcriptText(l)
	for _, each := range []func(l [][]int, use func(name string, changed [][]int)){eachByteChange, eachOrder, eachDivision, eachLength} {
		each(l, func(name string, changed [][]int) {
			if transcriptText(changed) != text && isTranscriptOf(changed) {
				use(name, changed)
			}
		})
	}
}

func TestOtherTranscriptsHaveOtherValues(t *testing.T) {
	others := 0
	for _, l := range someTranscripts() {
		otherTranscripts(l, func(name string, changed [][]int) {
			others++
			if checkOther(t, name, l, changed) {
				t.Errorf("%s: TranscriptHash of %v is that of %v", name, l, changed)
			}
		})
	}
	if others < 10000 {
		t.Errorf("there are only %d other transcripts", others)
	}
}

// Modulus is a prime, so a message that differs in one byte always shows.
func TestEachByteShows(t *testing.T) {
	for _, l := range [][][]int{{{0}}, {{1, 2, 3}}, {{9}, {8, 7}, {6}}, {nil, {5, 5, 5}, nil}} {
		for i, message := range l {
			for k := range message {
				met := map[int]int{}
				for n := range 256 {
					changed := cloneTranscript(l)
					changed[i][k] = n
					hash := impl.TranscriptHash(changed)
					if hash != transcriptHashOf(changed) {
						t.Errorf("TranscriptHash(%v) is %d", changed, hash)
					}
					if other, ok := met[hash]; ok {
						t.Errorf("TranscriptHash of %v is the same with %d", changed, other)
					}
					met[hash] = n
				}
			}
		}
	}
}

// What FinishOf returns checks out for that side, key and transcript alone.
func TestFinishesCheckOut(t *testing.T) {
	keys := bytesOf(1, 2, 77, 78, 1<<30, impl.Modulus-2, impl.Modulus-1)
	for _, l := range someTranscripts() {
		for _, key := range keys {
			for side := range 2 {
				finish := impl.FinishOf(key, l, side)
				checkChecksOut(t, "the same", key, cloneTranscript(l), side, finish, true)
				for _, other := range sideLimits() {
					checkChecksOut(t, "another side", key, l, other, finish, other == side)
				}
				for _, other := range append(someKeys(), key+1, key-1, key+impl.Modulus, key-impl.Modulus, -key) {
					checkChecksOut(t, "another key", other, l, side, finish, other == key)
				}
				for _, none := range noTranscripts()[:12] {
					checkChecksOut(t, "no transcript", key, none, side, finish, false)
				}
			}
		}
	}
}

func transcriptByChance(pick *rand.Rand) [][]int {
	l := transcript()
	for range pick.IntN(impl.MaxTranscript + 1) {
		var message []int
		for range pick.IntN(1 + pick.IntN(20)) {
			message = append(message, pick.IntN(256))
		}
		l = append(l, message)
	}
	return l
}

func TestTranscriptsByChance(t *testing.T) {
	others := 0
	for seed := range 40 {
		pick := chance(seed)
		l := transcriptByChance(pick)
		key := 1 + pick.IntN(impl.Modulus-1)
		checkMessages(t, "by chance", l, bytesOf(key), twoSides())
		otherTranscripts(l, func(name string, changed [][]int) {
			if pick.IntN(4) == 0 {
				others++
				checkOther(t, name, l, changed)
			}
		})
		checkOther(t, "another one by chance", l, transcriptByChance(pick))
	}
	if others < 1000 {
		t.Errorf("there are only %d other transcripts", others)
	}
}

// Any int at any place of a transcript is judged, and nothing else changes.
func TestAnyNumberInATranscript(t *testing.T) {
	for seed := range 30 {
		pick := chance(1000 + seed)
		l := transcriptByChance(pick)
		for i, message := range l {
			for k := range message {
				n := byteLimits()[pick.IntN(len(byteLimits()))]
				changed := cloneTranscript(l)
				changed[i][k] = n
				checkMessages(t, "any number", changed, bytesOf(77), twoSides())
				checkSame(t, "any number", l, changed, n == message[k])
			}
		}
	}
}

// fourNumbers finds four numbers of an alphabet which, as the last four bytes that are
// hashed, add a sum to the hash.
func fourNumbers(alphabet []int, sum int) []int {
	const factor = 1000003
	first := map[int][]int{}
	for _, a := range alphabet {
		for _, b := range alphabet {
			first[residueOf((residueOf(a*factor)+b)*factor%impl.Modulus*factor)] = bytesOf(a, b)
		}
	}
	for _, c := range alphabet {
		for _, d := range alphabet {
			beginning, ok := first[residueOf(sum-c*factor-d)]
			if ok && (c != 0 || d != 0) {
				return bytesOf(beginning[0], beginning[1], c, d)
			}
		}
	}
	return nil
}

func allBytes(least int) []int {
	var l []int
	for n := least; n < 256; n++ {
		l = append(l, n)
	}
	return l
}

// Two hashes may be the same: then each finish checks out for both transcripts, which
// are two all the same.
func TestTranscriptsWithOneHash(t *testing.T) {
	differences := fourNumbers(allBytes(-255), 0)
	if len(differences) != 4 {
		t.Fatal("no two messages have the same hash")
	}
	var one, other []int
	for _, d := range differences {
		one, other = append(one, max(d, 0)), append(other, max(-d, 0))
	}
	for _, l := range someTranscripts() {
		if len(l) == impl.MaxTranscript {
			l = l[1:]
		}
		for i := range len(l) + 1 {
			a, b := putMessages(l, i, i, one), putMessages(l, i, i, other)
			checkSame(t, "one hash", a, b, false)
			if !checkOther(t, "one hash", a, b) {
				t.Errorf("the hashes of %v and of %v are not the same", a, b)
			}
		}
	}
}

// The hash may be what stands for no messages or for a failure. Only FinishOf is
// nothing where it is 0.
func TestTranscriptsWithSmallHash(t *testing.T) {
	found := [3]int{}
	for _, l := range someTranscripts()[:24] {
		for want := range 3 {
			begun := append(slices.Clone(l), make([]int, 4))
			last := fourNumbers(allBytes(0), want-transcriptHashOf(begun))
			if last == nil {
				continue
			}
			found[want]++
			begun[len(l)] = last
			checkTranscriptHash(t, "a small hash", begun, want)
			checkMessages(t, "a small hash", begun, bytesOf(1, 77, impl.Modulus-1), twoSides())
			for side := range 2 {
				checkFinish(t, "a small hash", 77, begun, side, keyedHashOf(77, side, want))
			}
			if equal := checkOther(t, "no messages", begun, nil); equal != (want == 1) {
				t.Errorf("TranscriptHash of %v and of no messages: %v", begun, equal)
			}
		}
	}
	if found[0] < 10 || found[1] < 10 || found[2] < 10 {
		t.Errorf("there are %v small hashes", found)
	}
}

// rootOf returns the number of which a function has a value. The function has to be
// linear, modulo Modulus.
func rootOf(linear func(n int) int, value int) int {
	modulus, without := big.NewInt(impl.Modulus), linear(0)
	slope := big.NewInt(int64(residueOf(linear(1) - without)))
	root := slope.ModInverse(slope, modulus)
	root.Mul(root, big.NewInt(int64(residueOf(value-without)))).Mod(root, modulus)
	return int(root.Int64())
}

// keyOfFinish returns the key with which FinishOf is finish: a keyed hash is linear in
// its key.
func keyOfFinish(l [][]int, side int, finish int) int {
	return rootOf(func(key int) int { return keyedHashOf(key, side, transcriptHashOf(l)) }, finish)
}

// A finish of 0 never checks out, also where FinishOf is 0.
func TestNothingChecksOut(t *testing.T) {
	for _, l := range someTranscripts() {
		for side := range 2 {
			key := keyOfFinish(l, side, 0)
			if !impl.IsValidKey(key) || keyedHashOf(key, side, transcriptHashOf(l)) != 0 {
				t.Fatalf("%d is not the key that the test looks for", key)
			}
			checkFinish(t, "the key of 0", key, l, side, 0)
			for _, finish := range append(someNumbers(), impl.Modulus, -impl.Modulus) {
				checkChecksOut(t, "the key of 0", key, l, side, finish, false)
			}
			checkFinish(t, "the next key", key%(impl.Modulus-1)+1, l, side, finishOf(key%(impl.Modulus-1)+1, l, side))
			checkFinish(t, "the other side", key, l, 1-side, finishOf(key, l, 1-side))
		}
	}
	for _, key := range someKeys() {
		for _, l := range slices.Concat(someTranscripts(), noTranscripts()) {
			for _, side := range sideLimits() {
				checkChecksOut(t, "0", key, l, side, 0, false)
			}
		}
	}
}

// Any other number may be a finish.
func TestLeastAndGreatestFinish(t *testing.T) {
	for _, l := range someTranscripts() {
		for side := range 2 {
			for _, finish := range bytesOf(1, 2, 255, impl.Modulus-2, impl.Modulus-1) {
				key := keyOfFinish(l, side, finish)
				if impl.IsValidKey(key) {
					checkFinish(t, "the key of a finish", key, l, side, finish)
				} else {
					checkFinish(t, "no key", key, l, side, 0)
				}
			}
		}
	}
}

func TestSameTranscripts(t *testing.T) {
	cases := []struct {
		name string
		a, b [][]int
		want bool
	}{
		{"nil and nil", nil, nil, true},
		{"nil and empty", nil, transcript(), true},
		{"empty and empty", transcript(), transcript(), true},
		{"a nil message and an empty one", transcript(nil), transcript(bytesOf()), true},
		{"nil and a nil message", nil, transcript(nil), false},
		{"empty and an empty message", transcript(), transcript(bytesOf()), false},
		{"one and two empty messages", transcript(nil), transcript(nil, bytesOf()), false},
		{"a nil message and 0", transcript(nil), transcript(bytesOf(0)), false},
		{"one byte", transcript(bytesOf(5)), transcript(bytesOf(5)), true},
		{"another byte", transcript(bytesOf(5)), transcript(bytesOf(6)), false},
		{"equal", transcript(bytesOf(1, 2), nil, bytesOf(255)), transcript(bytesOf(1, 2), bytesOf(), bytesOf(255)), true},
		{"other bytes first", transcript(bytesOf(1, 2), bytesOf(3)), transcript(bytesOf(9, 2), bytesOf(3)), false},
		{"other bytes in the middle", transcript(bytesOf(1), bytesOf(2), bytesOf(3)), transcript(bytesOf(1), bytesOf(9), bytesOf(3)), false},
		{"other bytes last", transcript(bytesOf(1, 2), bytesOf(3)), transcript(bytesOf(1, 2), bytesOf(9)), false},
		{"other order", transcript(bytesOf(1), bytesOf(2)), transcript(bytesOf(2), bytesOf(1)), false},
		{"other order of bytes", transcript(bytesOf(1, 2)), transcript(bytesOf(2, 1)), false},
		{"divided elsewhere", transcript(bytesOf(1), bytesOf(2, 3)), transcript(bytesOf(1, 2), bytesOf(3)), false},
		{"not divided", transcript(bytesOf(1, 2)), transcript(bytesOf(1), bytesOf(2)), false},
		{"the beginning", transcript(bytesOf(1)), transcript(bytesOf(1), bytesOf(2)), false},
		{"the beginning without an empty message", transcript(bytesOf(1)), transcript(bytesOf(1), nil), false},
		{"the end", transcript(bytesOf(2)), transcript(bytesOf(1), bytesOf(2)), false},
		{"the beginning of a message", transcript(bytesOf(1, 2)), transcript(bytesOf(1, 2, 0)), false},
		{"repeated", transcript(bytesOf(1), bytesOf(1)), transcript(bytesOf(1)), false},
		{"an empty message elsewhere", transcript(nil, bytesOf(1)), transcript(bytesOf(1), nil), false},
		// Lists that are no transcripts are compared all the same.
		{"numbers that are no bytes", transcript(bytesOf(-1, 256)), transcript(bytesOf(-1, 256)), true},
		{"other numbers that are no bytes", transcript(bytesOf(-1)), transcript(bytesOf(256)), false},
		{"the least and the greatest int", transcript(bytesOf(math.MinInt), bytesOf(math.MaxInt)), transcript(bytesOf(math.MinInt), bytesOf(math.MaxInt)), true},
		{"the least or the greatest int", transcript(bytesOf(math.MinInt)), transcript(bytesOf(math.MaxInt)), false},
		{"equal low bits", transcript(bytesOf(7)), transcript(bytesOf(1<<32 + 7)), false},
		{"equal modulo 256", transcript(bytesOf(0)), transcript(bytesOf(256)), false},
		{"equal modulo Modulus", transcript(bytesOf(0)), transcript(bytesOf(impl.Modulus)), false},
		{"too many messages", rows(13, 2), rows(13, 2), true},
		{"too many empty messages", make([][]int, 13), make([][]int, 13), true},
		{"others of too many messages", rows(13, 2), putMessages(rows(13, 2), 12, 13, bytesOf(0, 0)), false},
		{"too many messages and as many as there may be", rows(13, 2), rows(12, 2), false},
		{"two numbers of too many messages", make([][]int, 13), make([][]int, 14), false},
		{"as many as there may be", rows(12, 2), rows(12, 2), true},
		{"one hash", transcript(bytesOf(0, 173, 0, 230)), transcript(bytesOf(20, 0, 239, 0)), false},
		{"the hash of no messages", nil, transcript(bytesOf(211, 48, 21, 76)), false},
		// What lies in the spare capacity is no part of a list.
		{"spare capacity", rows(5, 2)[:3], rows(3, 2), true},
		{"spare capacity of messages", transcript(bytesOf(1, 2, 3)[:1]), transcript(bytesOf(1, 4, 5)[:1]), true},
	}
	for _, c := range cases {
		checkSame(t, c.name, c.a, c.b, c.want)
		if (transcriptText(c.a) == transcriptText(c.b)) != c.want {
			t.Errorf("%s: the test holds another answer", c.name)
		}
	}
}

func TestSameTranscriptsOfEveryTwo(t *testing.T) {
	var lists [][][]int
	eachMessages(bytesOf(0, 256), 2, 2, func(l [][]int) { lists = append(lists, l) })
	eachMessages(bytesOf(-1), 1, 4, func(l [][]int) { lists = append(lists, l) })
	lists = slices.Concat(lists, someTranscripts(), noTranscripts())
	same := 0
	for i, a := range lists {
		for k, b := range lists {
			want := transcriptText(a) == transcriptText(b)
			checkSame(t, "any two", a, b, want)
			if want && i != k {
				same++
			}
		}
	}
	if same < 20 {
		t.Errorf("only %d lists are the same as another one", same)
	}
}

// markedTranscript returns a copy with marks in the spare capacity of all lists.
func markedTranscript(l [][]int) [][]int {
	var out [][]int
	for _, message := range l {
		out = append(out, markedBytes(message))
	}
	return append(out, slices.Repeat(transcript(bytesOf(777)), 5)...)[:len(l)]
}

func memoryOfTranscript(l [][]int) string {
	text := ""
	for _, message := range whole(l) {
		text += fmt.Sprint(len(message), whole(message), " ")
	}
	return text
}

func askAllOf(a [][]int, b [][]int) string {
	text := fmt.Sprint(impl.IsTranscript(a), impl.TranscriptHash(a), impl.SameTranscripts(a, b), impl.SameTranscripts(a, a))
	for _, key := range fewKeys() {
		for _, side := range bytesOf(-1, 0, 1, 2) {
			finish := impl.FinishOf(key, a, side)
			text += fmt.Sprint(" ", finish, impl.ChecksOut(key, a, side, finish), impl.ChecksOut(key, b, side, finish))
		}
	}
	return text
}

func TestTranscriptsKeepArguments(t *testing.T) {
	lists := slices.Concat(someTranscripts(), noTranscripts())
	for i, l := range lists {
		a, b := markedTranscript(l), markedTranscript(lists[len(lists)-1-i])
		before, otherBefore := memoryOfTranscript(a), memoryOfTranscript(b)
		askAllOf(a, b)
		askAllOf(b, a)
		if memoryOfTranscript(a) != before || memoryOfTranscript(b) != otherBefore {
			t.Errorf("the arguments are changed to %s, %s", memoryOfTranscript(a), memoryOfTranscript(b))
		}
	}
}

// Messages may lie one behind the other in the same memory.
func TestTranscriptsOfOneMemory(t *testing.T) {
	memory := longBody(60)
	before := slices.Clone(memory)
	for _, cuts := range [][]int{{0, 5, 9, 20}, {0, 1, 2, 3}, {0, 0, 30, 60}, {7, 7, 7, 7}} {
		l, apart := transcript(), transcript()
		for i, end := range cuts[1:] {
			l = append(l, memory[cuts[i]:end])
			apart = append(apart, slices.Clone(memory[cuts[i]:end]))
		}
		checkMessages(t, "one memory", l, fewKeys(), twoSides())
		checkSame(t, "one memory", l, apart, true)
		askAllOf(l, apart)
		if !slices.Equal(memory, before) {
			t.Fatalf("the memory of the messages is changed to %v", memory)
		}
	}
	same := transcript(memory[:8], memory[:8], memory[:8])
	checkMessages(t, "one message several times", same, fewKeys(), twoSides())
}

// What one call has met is not known to another.
func TestTranscriptsKeepNoState(t *testing.T) {
	lists := slices.Concat(someTranscripts(), noTranscripts())
	var first []string
	for i, l := range lists {
		first = append(first, askAllOf(l, lists[len(lists)-1-i]))
	}
	for i := range slices.Backward(lists) {
		if got := askAllOf(lists[i], lists[len(lists)-1-i]); got != first[i] {
			t.Errorf("of %.300s the answers are %s, not %s, after other calls", transcriptText(lists[i]), got, first[i])
		}
	}
}

// A message that is changed later changes the next answer and none that was given.
func TestTranscriptsAreReadWhenAsked(t *testing.T) {
	l := transcript(bytesOf(1, 2), bytesOf(3))
	hash, finish := impl.TranscriptHash(l), impl.FinishOf(77, l, 1)
	for _, n := range bytesOf(4, 255, 256, -1, 3) {
		l[1][0] = n
		checkMessages(t, "changed later", l, fewKeys(), twoSides())
		checkChecksOut(t, "changed later", 77, l, 1, finish, n == 3)
		if got := impl.TranscriptHash(l) == hash; got != (n == 3) {
			t.Errorf("TranscriptHash(%v) is %d before: %v", l, hash, got)
		}
	}
}

func TestTranscriptsOfManyBytes(t *testing.T) {
	const many = 100000
	long := make([]int, many)
	for i := range long {
		long[i] = i * 7 % 256
	}
	l := transcript(long, nil, long[:many-1], long)
	checkMessages(t, "many bytes", l, bytesOf(77), twoSides())
	checkOther(t, "many bytes", l, transcript(long, nil, long, long[:many-1]))
	checkOther(t, "many bytes", l, transcript(long, nil, long[:many-1], append(slices.Clone(long[:many-1]), 1)))
	wrong := slices.Clone(long)
	wrong[many-1] = 256
	checkMessages(t, "many bytes", transcript(long, wrong), bytesOf(77), twoSides())
	checkSame(t, "many bytes", transcript(long, wrong), transcript(long, long), false)
	checkMessages(t, "many messages", make([][]int, many), bytesOf(77), twoSides())
	checkSame(t, "many messages", make([][]int, many), append(make([][]int, many-1), bytesOf(0)), false)
}
