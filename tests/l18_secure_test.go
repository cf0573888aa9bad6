package tests

import (
	"fmt"
	"math"
	"math/rand/v2"
	"slices"
	"testing"

	"loop.example/g03000/impl"
)

// Promise 18: no attacker without the key changes a deal (chapter 18).

func edit(kind int, n int) impl.Edit {
	return impl.Edit{Kind: kind, N: n}
}

func editsOf(edits ...impl.Edit) []impl.Edit {
	return edits
}

func dealWith(version int, tags ...int) impl.Deal {
	return impl.Deal{Ok: true, Version: version, Tags: tags}
}

// dealText is the same for equal deals alone: it has brackets about the tags.
func dealText(d impl.Deal) string {
	return fmt.Sprint(d)
}

func noDeal() string {
	return dealText(impl.Deal{})
}

// lacking strikes out what is dropped, where the program gathers what is left.
func lacking(l []impl.Ext, tag int) []impl.Ext {
	return slices.DeleteFunc(slices.Clone(l), func(x impl.Ext) bool { return x.Tag == tag })
}

// editedHello goes by the kind of the edit and the limits of what it may bring about,
// case by case, where the program looks the kind up.
func editedHello(h impl.Hello, e impl.Edit) impl.Hello {
	versions, exts := h.Versions, h.Exts
	longer := append(slices.Clone(exts), ext(e.N))
	switch {
	case e.Kind == impl.EdDropVersion:
		versions, _ = withoutVersion(versions, e.N)
	case e.Kind == impl.EdAddVersion:
		versions, _ = withVersion(versions, e.N)
	case e.Kind == impl.EdDropExt:
		exts = lacking(exts, e.N)
	case e.Kind == impl.EdAddExt && isExtList(longer):
		exts = longer
	}
	return hello(versions, exts...)
}

func editedAnswer(a impl.Answer, e impl.Edit) impl.Answer {
	switch {
	case e.Kind == impl.EdSetVersion && slices.Contains(allVersions(), e.N):
		return answer(e.N, a.Exts...)
	case e.Kind == impl.EdDropBack:
		return answer(a.Version, lacking(a.Exts, e.N)...)
	}
	return a
}

// meeting is what is sent and what arrives when a valid hello is answered.
type meeting struct {
	sent, arrived impl.Hello
	chosen, got   impl.Answer
	answered      bool
}

// meetingOf divides the edits by their kinds first: the others change nothing.
func meetingOf(h impl.Hello, versions []int, tags []int, edits []impl.Edit) meeting {
	m := meeting{sent: h, arrived: h}
	var back []impl.Edit
	for _, e := range edits {
		if slices.Contains(bytesOf(4, 5), e.Kind) {
			back = append(back, e)
		} else {
			m.arrived = editedHello(m.arrived, e)
		}
	}
	m.chosen, m.answered = choiceOf(versions, tags, m.arrived)
	m.got = m.chosen
	for _, e := range back {
		m.got = editedAnswer(m.got, e)
	}
	return m
}

func (m meeting) client() [][]int {
	return transcript(helloBytesOf(m.sent), answerBytesOf(m.got))
}

func (m meeting) server() [][]int {
	return transcript(helloBytesOf(m.arrived), answerBytesOf(m.chosen))
}

// isChanged reports whether something arrives that was not sent.
func (m meeting) isChanged() bool {
	return transcriptText(m.client()) != transcriptText(m.server())
}

// hasOneValue reports whether both sides have the same value, whatever they saw.
func (m meeting) hasOneValue() bool {
	return transcriptHashOf(m.client()) == transcriptHashOf(m.server())
}

func dealBy(m meeting, key int, count int) impl.Deal {
	if !isHelloOf(m.sent) || !m.answered || count > 6 {
		return impl.Deal{}
	}
	finish := finishOf(key, m.server(), 1)
	if finish == 0 || finish != finishOf(key, m.client(), 1) || !fitsOf(m.sent, m.got) {
		return impl.Deal{}
	}
	return dealWith(m.got.Version, impl.TagsOf(m.got.Exts)...)
}

// handshake is what a deal is made from, but for the edits.
type handshake struct {
	h              impl.Hello
	versions, tags []int
	key            int
}

func (x handshake) text() string {
	return fmt.Sprint(x)
}

func (x handshake) run(edits ...impl.Edit) impl.Deal {
	return impl.RunHandshake(x.h, x.versions, x.tags, x.key, edits)
}

func (x handshake) honest() impl.Deal {
	return impl.HonestDeal(x.h, x.versions, x.tags, x.key)
}

func (x handshake) meeting(edits ...impl.Edit) meeting {
	return meetingOf(x.h, x.versions, x.tags, edits)
}

// checkHandshake holds a deal against what the test works out, and returns it.
func checkHandshake(t *testing.T, name string, x handshake, edits ...impl.Edit) impl.Deal {
	t.Helper()
	got, want := x.run(edits...), dealBy(x.meeting(edits...), x.key, len(edits))
	if dealText(got) != dealText(want) {
		t.Errorf("%s: RunHandshake of %.300s with the edits %.200v is %.200s, not %.200s", name, x.text(), edits, dealText(got), dealText(want))
	}
	return got
}

// checkAttack is the promise: there is the honest deal or none, and none at all if
// something arrives that was not sent. It reports whether there is one.
func checkAttack(t *testing.T, name string, x handshake, edits ...impl.Edit) bool {
	t.Helper()
	got, honest := checkHandshake(t, name, x, edits...), x.honest()
	m := x.meeting(edits...)
	changed := !m.answered || m.isChanged()
	if m.answered && changed && m.hasOneValue() {
		t.Fatalf("%s: the edits %v of %s bring about an equality", name, edits, x.text())
	}
	switch {
	case changed || len(edits) > impl.MaxEdits:
		checkDealIs(t, name, got, impl.Deal{})
	default:
		checkDealIs(t, name, got, honest)
	}
	return got.Ok
}

func checkDealIs(t *testing.T, name string, got impl.Deal, want impl.Deal) {
	t.Helper()
	if dealText(got) != dealText(want) {
		t.Errorf("%s: the deal is %.200s, not %.200s", name, dealText(got), dealText(want))
	}
	if !impl.EqualDeals(got, want) || !impl.EqualDeals(want, got) {
		t.Errorf("%s: %.200s and %.200s are not equal", name, dealText(got), dealText(want))
	}
}

func checkEditHello(t *testing.T, name string, h impl.Hello, e impl.Edit, want impl.Hello) {
	t.Helper()
	got := impl.EditHello(h, e)
	if helloText(got) != helloText(want) {
		t.Errorf("%s: EditHello(%.200s, %v) is %.200s, not %.200s", name, helloText(h), e, helloText(got), helloText(want))
	}
	// Who edits a valid hello sends a valid one.
	if isHelloOf(h) {
		checkIsHello(t, name, got, true)
	}
}

func checkEditAnswer(t *testing.T, name string, a impl.Answer, e impl.Edit, want impl.Answer) {
	t.Helper()
	got := impl.EditAnswer(a, e)
	if fmt.Sprint(got) != fmt.Sprint(want) {
		t.Errorf("%s: EditAnswer(%.200v, %v) is %.200v, not %.200v", name, fmt.Sprint(a), e, fmt.Sprint(got), fmt.Sprint(want))
	}
	if isAnswerOf(a) && !impl.IsAnswer(got) {
		t.Errorf("%s: EditAnswer(%v, %v) is %v, which is not valid", name, a, e, got)
	}
}

// editKinds returns all kinds and numbers that are none.
func editKinds() []int {
	return append(someNumbers(), -6, -3, 8, 9, 10, 1<<32+2, 1<<32+3, 1<<32+4, 1<<32+5, 1<<32+6, 256+1, 256+6)
}

func noKinds() []int {
	return slices.DeleteFunc(editKinds(), func(kind int) bool { return kind >= 1 && kind <= 6 })
}

// editNumbers returns versions and tags, those of the lists and others, and numbers that
// are neither.
func editNumbers(lists ...[]int) []int {
	numbers := append(versionLimits(), byteLimits()...)
	for _, l := range lists {
		for _, n := range l[:min(len(l), 12)] {
			numbers = append(numbers, n, n-1, n+1, n+256, n+1<<32)
		}
	}
	slices.Sort(numbers)
	return slices.Compact(numbers)
}

// editsAbout returns edits of all kinds, with the numbers that a hello has and others.
func editsAbout(h impl.Hello) []impl.Edit {
	var edits []impl.Edit
	for kind := 1; kind <= 6; kind++ {
		for _, n := range editNumbers(h.Versions, impl.TagsOf(h.Exts)) {
			edits = append(edits, edit(kind, n))
		}
	}
	for _, kind := range noKinds() {
		for _, n := range append(impl.TagsOf(h.Exts), h.Versions...) {
			edits = append(edits, edit(kind, n))
		}
	}
	return edits
}

// someHandshakes returns valid hellos of each sort, with servers that know all, some or
// none of what is offered.
func someHandshakes() []handshake {
	three := hello(bytesOf(1, 2, 3), ext(2), ext(40, 9))
	six := hello(bytesOf(2, 4, 6), ext(6), ext(5, 1), ext(4, 1, 2), ext(3, 1, 2, 3), ext(2, 1, 2, 3, 4), ext(1))
	return []handshake{
		{three, bytesOf(1, 2, 3), bytesOf(2, 40), 77}, {three, bytesOf(2, 3, 9), bytesOf(40, 5, 10), 77}, {three, bytesOf(1), nil, 1},
		{hello(bytesOf(5)), bytesOf(5), nil, 77}, {hello(bytesOf(5)), allVersions(), bytesOf(5, 2), impl.Modulus - 1},
		{hello(allVersions()), allVersions(), openTags, 2}, {hello(bytesOf(1, 9), ext(7)), bytesOf(1, 9), bytesOf(7, 7), 1 << 30},
		{hello(bytesOf(3, 4), ext(10), ext(26, 1)), bytesOf(3, 4, 5), bytesOf(10, 26, 42), 77}, {six, bytesOf(4, 6), bytesOf(1, 3, 6), 77},
		{six, allVersions(), openTags, impl.Modulus - 2}, {hello(bytesOf(1, 2), ext(10, 7), ext(2, 9), ext(0, 0, 0, 0, 0)), bytesOf(1, 2), bytesOf(0, 2, 10, 99), 78},
	}
}

func TestSecureLimits(t *testing.T) {
	got := bytesOf(impl.EdDropVersion, impl.EdAddVersion, impl.EdDropExt, impl.EdSetVersion, impl.EdDropBack, impl.EdAddExt, impl.MaxEdits)
	if want := bytesOf(1, 2, 3, 4, 5, 6, 6); !slices.Equal(got, want) {
		t.Errorf("the constants are %v, not %v", got, want)
	}
}

func TestEditVersionsOfHello(t *testing.T) {
	exts := extsOf(ext(2, 9), ext(10, 1), ext(40))
	cases := []struct {
		name     string
		versions []int
		e        impl.Edit
		want     []int
	}{
		{"the first version dropped", bytesOf(1, 3, 5), edit(impl.EdDropVersion, 1), bytesOf(3, 5)},
		{"a version between dropped", bytesOf(1, 3, 5), edit(impl.EdDropVersion, 3), bytesOf(1, 5)},
		{"the last version dropped", bytesOf(1, 3, 5), edit(impl.EdDropVersion, 5), bytesOf(1, 3)},
		{"MaxVersion dropped", allVersions(), edit(impl.EdDropVersion, 9), allVersions()[:8]},
		{"a version dropped that is not there", bytesOf(1, 3, 5), edit(impl.EdDropVersion, 2), bytesOf(1, 3, 5)},
		{"a version dropped that is a Tag", bytesOf(1, 3, 5), edit(impl.EdDropVersion, 40), bytesOf(1, 3, 5)},
		{"the only version dropped", bytesOf(4), edit(impl.EdDropVersion, 4), bytesOf(4)},
		{"0 dropped", bytesOf(1, 3), edit(impl.EdDropVersion, 0), bytesOf(1, 3)},
		{"-1 dropped", bytesOf(1, 3), edit(impl.EdDropVersion, -1), bytesOf(1, 3)},
		{"10 dropped", bytesOf(1, 3), edit(impl.EdDropVersion, 10), bytesOf(1, 3)},
		{"the least int dropped", bytesOf(1, 3), edit(impl.EdDropVersion, math.MinInt), bytesOf(1, 3)},
		{"the greatest int dropped", bytesOf(1, 3), edit(impl.EdDropVersion, math.MaxInt), bytesOf(1, 3)},
		{"a version modulo 2^32 dropped", bytesOf(1, 3), edit(impl.EdDropVersion, 1<<32+3), bytesOf(1, 3)},
		{"a version in the spare capacity dropped", bytesOf(1, 3, 5)[:2], edit(impl.EdDropVersion, 5), bytesOf(1, 3)},
		{"the only one before spare capacity dropped", bytesOf(1, 3)[:1], edit(impl.EdDropVersion, 1), bytesOf(1)},
		{"a version added in front", bytesOf(3, 5), edit(impl.EdAddVersion, 1), bytesOf(1, 3, 5)},
		{"a version added between", bytesOf(3, 5), edit(impl.EdAddVersion, 4), bytesOf(3, 4, 5)},
		{"MaxVersion added", bytesOf(3, 5), edit(impl.EdAddVersion, 9), bytesOf(3, 5, 9)},
		{"the ninth version added", allVersions()[1:], edit(impl.EdAddVersion, 1), allVersions()},
		{"a version added that is there", bytesOf(3, 5), edit(impl.EdAddVersion, 3), bytesOf(3, 5)},
		{"a version added to all", allVersions(), edit(impl.EdAddVersion, 5), allVersions()},
		{"0 added", bytesOf(3, 5), edit(impl.EdAddVersion, 0), bytesOf(3, 5)},
		{"-1 added", bytesOf(3, 5), edit(impl.EdAddVersion, -1), bytesOf(3, 5)},
		{"10 added", bytesOf(3, 5), edit(impl.EdAddVersion, 10), bytesOf(3, 5)},
		{"the least int added", bytesOf(3, 5), edit(impl.EdAddVersion, math.MinInt), bytesOf(3, 5)},
		{"the greatest int added", bytesOf(3, 5), edit(impl.EdAddVersion, math.MaxInt), bytesOf(3, 5)},
		{"a version added that is in the spare capacity", bytesOf(3, 5)[:1], edit(impl.EdAddVersion, 5), bytesOf(3, 5)},
		{"dropped from no versions", nil, edit(impl.EdDropVersion, 1), nil},
		{"added to no versions", nil, edit(impl.EdAddVersion, 1), nil},
		{"dropped from falling versions", bytesOf(5, 3), edit(impl.EdDropVersion, 3), bytesOf(5, 3)},
		{"added to falling versions", bytesOf(5, 3), edit(impl.EdAddVersion, 4), bytesOf(5, 3)},
		{"a version twice, dropped", bytesOf(3, 3), edit(impl.EdDropVersion, 3), bytesOf(3, 3)},
		{"a version of 0, dropped", bytesOf(0, 3), edit(impl.EdDropVersion, 0), bytesOf(0, 3)},
		{"a version of 10, dropped", bytesOf(3, 10), edit(impl.EdDropVersion, 10), bytesOf(3, 10)},
		{"added to a version of 10", bytesOf(10), edit(impl.EdAddVersion, 3), bytesOf(10)},
	}
	for _, c := range cases {
		// The extensions, valid or not, stay as they are.
		for _, exts := range [][]impl.Ext{exts, nil, {}, {ext(5), ext(5)}, {ext(-1, 300)}, make([]impl.Ext, 9)} {
			checkEditHello(t, c.name, hello(c.versions, exts...), c.e, hello(c.want, exts...))
		}
		if got := editedHello(hello(c.versions, exts...), c.e); helloText(got) != helloText(hello(c.want, exts...)) {
			t.Errorf("%s: the test holds another answer: %v", c.name, got)
		}
	}
}

func TestEditExtsOfHello(t *testing.T) {
	exts := extsOf(ext(2, 9), ext(10, 1), ext(40))
	five := extsOf(ext(6), ext(5, 1), ext(4), ext(3, 1, 2), ext(2))
	six := append(slices.Clone(five), ext(1))
	twice := extsOf(ext(5, 1), ext(2, 9), ext(5, 2), ext(5), ext(10))
	cases := []struct {
		name string
		exts []impl.Ext
		e    impl.Edit
		want []impl.Ext
	}{
		{"the first extension dropped", exts, edit(impl.EdDropExt, 2), extsOf(ext(10, 1), ext(40))},
		{"a reserved extension dropped", exts, edit(impl.EdDropExt, 10), extsOf(ext(2, 9), ext(40))},
		{"the last extension dropped", exts, edit(impl.EdDropExt, 40), extsOf(ext(2, 9), ext(10, 1))},
		{"an extension dropped that is not there", exts, edit(impl.EdDropExt, 5), exts},
		{"a byte of a Body dropped", exts, edit(impl.EdDropExt, 9), exts},
		{"a version dropped", exts, edit(impl.EdDropExt, 1), exts},
		{"the only extension dropped", extsOf(ext(7, 1)), edit(impl.EdDropExt, 7), nil},
		{"dropped from none", nil, edit(impl.EdDropExt, 7), nil},
		{"dropped from MaxExts", six, edit(impl.EdDropExt, 1), five},
		{"the zero Ext dropped", make([]impl.Ext, 1), edit(impl.EdDropExt, 0), nil},
		{"-1 dropped", exts, edit(impl.EdDropExt, -1), exts},
		{"a Tag modulo 256 dropped", exts, edit(impl.EdDropExt, 256+2), exts},
		{"a Tag modulo 2^32 dropped", exts, edit(impl.EdDropExt, 1<<32+2), exts},
		{"the least int dropped", exts, edit(impl.EdDropExt, math.MinInt), exts},
		{"the greatest int dropped", exts, edit(impl.EdDropExt, math.MaxInt), exts},
		{"an extension in the spare capacity dropped", exts[:2], edit(impl.EdDropExt, 40), exts[:2]},
		{"several with the same Tag dropped", twice, edit(impl.EdDropExt, 5), extsOf(ext(2, 9), ext(10))},
		{"one of several others dropped", twice, edit(impl.EdDropExt, 2), extsOf(ext(5, 1), ext(5, 2), ext(5), ext(10))},
		{"two in a row dropped", extsOf(ext(1), ext(5), ext(5), ext(2)), edit(impl.EdDropExt, 5), extsOf(ext(1), ext(2))},
		{"all dropped", extsOf(ext(5), ext(5, 1, 2, 3, 4, 5), ext(5, -1)), edit(impl.EdDropExt, 5), nil},
		{"too many dropped", make([]impl.Ext, 9), edit(impl.EdDropExt, 0), nil},
		{"one dropped that is none", extsOf(ext(-1, 300), ext(2)), edit(impl.EdDropExt, -1), extsOf(ext(2))},
		{"one of the least int dropped", extsOf(ext(math.MinInt), ext(math.MaxInt)), edit(impl.EdDropExt, math.MinInt), extsOf(ext(math.MaxInt))},
		{"one dropped among such as are none", extsOf(ext(-1, 300), ext(2)), edit(impl.EdDropExt, 2), extsOf(ext(-1, 300))},
		{"an extension added", exts, edit(impl.EdAddExt, 5), append(slices.Clone(exts), ext(5))},
		{"a lower Tag added", exts, edit(impl.EdAddExt, 0), append(slices.Clone(exts), ext(0))},
		{"the greatest Tag added", exts, edit(impl.EdAddExt, 255), append(slices.Clone(exts), ext(255))},
		{"a reserved Tag added", exts, edit(impl.EdAddExt, 26), append(slices.Clone(exts), ext(26))},
		{"a version added", exts, edit(impl.EdAddExt, 3), append(slices.Clone(exts), ext(3))},
		{"added to none", nil, edit(impl.EdAddExt, 5), extsOf(ext(5))},
		{"the last one of MaxExts added", five, edit(impl.EdAddExt, 1), six},
		{"one more than MaxExts added", six, edit(impl.EdAddExt, 7), six},
		{"one of MaxExts added again", six, edit(impl.EdAddExt, 1), six},
		{"the first Tag added again", exts, edit(impl.EdAddExt, 2), exts},
		{"a reserved Tag added again", exts, edit(impl.EdAddExt, 10), exts},
		{"the last Tag added again", exts, edit(impl.EdAddExt, 40), exts},
		{"-1 added", exts, edit(impl.EdAddExt, -1), exts},
		{"256 added", exts, edit(impl.EdAddExt, 256), exts},
		{"-1 added to none", nil, edit(impl.EdAddExt, -1), nil},
		{"256 added to none", nil, edit(impl.EdAddExt, 256), nil},
		{"the least int added", exts, edit(impl.EdAddExt, math.MinInt), exts},
		{"the greatest int added", exts, edit(impl.EdAddExt, math.MaxInt), exts},
		{"a Tag added that is in the spare capacity", exts[:2], edit(impl.EdAddExt, 40), extsOf(ext(2, 9), ext(10, 1), ext(40))},
		{"added to a Tag that is there twice", twice, edit(impl.EdAddExt, 7), twice},
		{"added to a Tag of 256", extsOf(ext(256)), edit(impl.EdAddExt, 7), extsOf(ext(256))},
		{"added to a Tag of -1", extsOf(ext(-1)), edit(impl.EdAddExt, 7), extsOf(ext(-1))},
		{"added to a byte of 256", extsOf(ext(1, 256)), edit(impl.EdAddExt, 7), extsOf(ext(1, 256))},
		{"added to a Body of five bytes", extsOf(ext(1, 1, 2, 3, 4, 5)), edit(impl.EdAddExt, 7), extsOf(ext(1, 1, 2, 3, 4, 5))},
		{"added to too many", make([]impl.Ext, 9), edit(impl.EdAddExt, 7), make([]impl.Ext, 9)},
	}
	for _, c := range cases {
		// The versions, valid or not, stay as they are.
		for _, versions := range [][]int{{1, 3}, {40}, nil, {}, {3, 1}, {-1, 0, 300}, make([]int, 20)} {
			checkEditHello(t, c.name, hello(versions, c.exts...), c.e, hello(versions, c.want...))
		}
		if got := editedHello(hello(bytesOf(1), c.exts...), c.e); helloText(got) != helloText(hello(bytesOf(1), c.want...)) {
			t.Errorf("%s: the test holds another answer: %v", c.name, got)
		}
	}
}

func TestEditAnswer(t *testing.T) {
	exts := extsOf(ext(2, 9), ext(40), ext(7, 1, 2, 3, 4))
	twice := extsOf(ext(5, 1), ext(2, 9), ext(5, 2), ext(5))
	a := answer(3, exts...)
	cases := []struct {
		name string
		a    impl.Answer
		e    impl.Edit
		want impl.Answer
	}{
		{"a lower version set", a, edit(impl.EdSetVersion, 1), answer(1, exts...)},
		{"a greater version set", a, edit(impl.EdSetVersion, 9), answer(9, exts...)},
		{"the same version set", a, edit(impl.EdSetVersion, 3), a},
		{"0 set", a, edit(impl.EdSetVersion, 0), a},
		{"-1 set", a, edit(impl.EdSetVersion, -1), a},
		{"10 set", a, edit(impl.EdSetVersion, 10), a},
		{"the least int set", a, edit(impl.EdSetVersion, math.MinInt), a},
		{"the greatest int set", a, edit(impl.EdSetVersion, math.MaxInt), a},
		{"a version modulo 2^32 set", a, edit(impl.EdSetVersion, 1<<32+1), a},
		{"a Tag set", a, edit(impl.EdSetVersion, 40), a},
		{"a version set that is a Tag", a, edit(impl.EdSetVersion, 2), answer(2, exts...)},
		{"set without extensions", answer(9), edit(impl.EdSetVersion, 8), answer(8)},
		{"set in the zero Answer", impl.Answer{}, edit(impl.EdSetVersion, 8), answer(8)},
		{"0 set in the zero Answer", impl.Answer{}, edit(impl.EdSetVersion, 0), impl.Answer{}},
		{"set in place of 10", answer(10, exts...), edit(impl.EdSetVersion, 9), answer(9, exts...)},
		{"10 set in place of 10", answer(10), edit(impl.EdSetVersion, 10), answer(10)},
		{"set in place of the least int", answer(math.MinInt), edit(impl.EdSetVersion, 1), answer(1)},
		{"-1 set in place of the greatest int", answer(math.MaxInt), edit(impl.EdSetVersion, -1), answer(math.MaxInt)},
		{"set before extensions that are none", answer(3, ext(-1, 300), ext(-1)), edit(impl.EdSetVersion, 1), answer(1, ext(-1, 300), ext(-1))},
		{"set before too many extensions", answer(3, make([]impl.Ext, 9)...), edit(impl.EdSetVersion, 1), answer(1, make([]impl.Ext, 9)...)},
		{"the first extension dropped", a, edit(impl.EdDropBack, 2), answer(3, exts[1:]...)},
		{"an extension between dropped", a, edit(impl.EdDropBack, 40), answer(3, exts[0], exts[2])},
		{"the last extension dropped", a, edit(impl.EdDropBack, 7), answer(3, exts[:2]...)},
		{"an extension dropped that is not there", a, edit(impl.EdDropBack, 5), a},
		{"the version dropped", a, edit(impl.EdDropBack, 3), a},
		{"a byte of a Body dropped", a, edit(impl.EdDropBack, 9), a},
		{"-1 dropped", a, edit(impl.EdDropBack, -1), a},
		{"a Tag modulo 256 dropped", a, edit(impl.EdDropBack, 256+2), a},
		{"a Tag modulo 2^32 dropped", a, edit(impl.EdDropBack, 1<<32+2), a},
		{"the least int dropped", a, edit(impl.EdDropBack, math.MinInt), a},
		{"the greatest int dropped", a, edit(impl.EdDropBack, math.MaxInt), a},
		{"the only extension dropped", answer(1, ext(7, 1)), edit(impl.EdDropBack, 7), answer(1)},
		{"dropped from none", answer(1), edit(impl.EdDropBack, 7), answer(1)},
		{"dropped from the zero Answer", impl.Answer{}, edit(impl.EdDropBack, 0), impl.Answer{}},
		{"the zero Ext dropped", answer(1, impl.Ext{}), edit(impl.EdDropBack, 0), answer(1)},
		{"a reserved extension dropped", answer(1, ext(10), ext(26, 1)), edit(impl.EdDropBack, 10), answer(1, ext(26, 1))},
		{"an extension in the spare capacity dropped", answer(1, exts[:2]...), edit(impl.EdDropBack, 7), answer(1, exts[:2]...)},
		{"several with the same Tag dropped", answer(1, twice...), edit(impl.EdDropBack, 5), answer(1, ext(2, 9))},
		{"one of several others dropped", answer(1, twice...), edit(impl.EdDropBack, 2), answer(1, ext(5, 1), ext(5, 2), ext(5))},
		{"all dropped", answer(0, ext(5), ext(5, 1, 2, 3, 4, 5), ext(5, -1)), edit(impl.EdDropBack, 5), answer(0)},
		{"too many dropped", answer(11, make([]impl.Ext, 9)...), edit(impl.EdDropBack, 0), answer(11)},
		{"one dropped that is none", answer(-1, ext(-1, 300), ext(2)), edit(impl.EdDropBack, -1), answer(-1, ext(2))},
		{"one of the greatest int dropped", answer(1, ext(math.MinInt), ext(math.MaxInt)), edit(impl.EdDropBack, math.MaxInt), answer(1, ext(math.MinInt))},
	}
	for _, c := range cases {
		checkEditAnswer(t, c.name, c.a, c.e, c.want)
		if got := editedAnswer(c.a, c.e); fmt.Sprint(got) != fmt.Sprint(c.want) {
			t.Errorf("%s: the test holds another answer: %v", c.name, got)
		}
	}
}

// Edits of other kinds, also those of the other message, change nothing, whatever their
// number is.
func TestEditsOfOtherKinds(t *testing.T) {
	for _, h := range mixedHellos() {
		a := impl.Answer{Version: 2, Exts: h.Exts}
		numbers := append(impl.TagsOf(h.Exts), 1, 2, 9, 0, 255, math.MinInt, math.MaxInt)
		for _, n := range slices.Concat(numbers, h.Versions) {
			for _, kind := range noKinds() {
				checkEditHello(t, "no kind", h, edit(kind, n), h)
				checkEditAnswer(t, "no kind", a, edit(kind, n), a)
			}
			for _, kind := range bytesOf(impl.EdSetVersion, impl.EdDropBack) {
				checkEditHello(t, "an edit of answers", h, edit(kind, n), h)
			}
			for _, kind := range bytesOf(impl.EdDropVersion, impl.EdAddVersion, impl.EdDropExt, impl.EdAddExt) {
				checkEditAnswer(t, "an edit of hellos", a, edit(kind, n), a)
			}
		}
	}
}

func TestEditsOfManyMessages(t *testing.T) {
	changed, kept := 0, 0
	for _, h := range slices.Concat(aboutFifty(), mixedHellos()) {
		a := impl.Answer{Version: len(h.Versions), Exts: h.Exts}
		for _, e := range editsAbout(h) {
			want := editedHello(h, e)
			checkEditHello(t, "a hello", h, e, want)
			checkEditAnswer(t, "an answer", a, e, editedAnswer(a, e))
			if helloText(want) != helloText(h) {
				changed++
			} else {
				kept++
			}
		}
	}
	if changed < 1000 || kept < 10000 {
		t.Errorf("%d edits change a hello and %d do not", changed, kept)
	}
}

func TestHonestDeal(t *testing.T) {
	h := hello(bytesOf(1, 3, 5), ext(2, 9), ext(10, 1), ext(40), ext(7, 1, 2, 3, 4))
	six := extsOf(ext(6), ext(5, 1), ext(4, 1, 2), ext(3, 1, 2, 3), ext(2, 1, 2, 3, 4), ext(1))
	cases := []struct {
		name string
		x    handshake
		want impl.Deal
	}{
		{"no tags", handshake{h, bytesOf(1, 2, 3), nil, 77}, dealWith(3)},
		{"empty tags", handshake{h, bytesOf(1), []int{}, 77}, dealWith(1)},
		{"one tag", handshake{h, bytesOf(5), bytesOf(2), 77}, dealWith(5, 2)},
		{"tags in another order", handshake{h, bytesOf(1, 5), bytesOf(7, 40, 2), 77}, dealWith(5, 2, 40, 7)},
		{"a reserved tag", handshake{h, bytesOf(3), bytesOf(10), 77}, dealWith(3)},
		{"a reserved tag and another one", handshake{h, bytesOf(3), bytesOf(10, 7), 77}, dealWith(3, 7)},
		{"a tag twice", handshake{h, bytesOf(3), bytesOf(40, 40), 77}, dealWith(3, 40)},
		{"a tag that the hello does not have", handshake{h, bytesOf(3), bytesOf(8), 77}, dealWith(3)},
		{"tags that the hello has and has not", handshake{h, bytesOf(3), bytesOf(8, 2, 9, 1), 77}, dealWith(3, 2)},
		{"tags that are versions", handshake{h, bytesOf(3), bytesOf(1, 3, 5), 77}, dealWith(3)},
		{"numbers that are no tags", handshake{h, bytesOf(3), bytesOf(math.MinInt, -1, 256, 258, 1<<32+2, math.MaxInt), 77}, dealWith(3)},
		{"all tags", handshake{h, allVersions(), openTags, 77}, dealWith(5, 2, 40, 7)},
		{"the least common version", handshake{h, bytesOf(1, 2, 4, 6), nil, 77}, dealWith(1)},
		{"the same versions", handshake{h, bytesOf(1, 3, 5), nil, 77}, dealWith(5)},
		{"a version in the spare capacity", handshake{h, bytesOf(1, 3)[:1], nil, 77}, dealWith(1)},
		{"no extensions", handshake{hello(bytesOf(4)), bytesOf(4), bytesOf(2), 77}, dealWith(4)},
		{"empty extensions, all versions", handshake{hello(allVersions(), extsOf()...), allVersions(), nil, 77}, dealWith(9)},
		{"reserved extensions alone", handshake{hello(bytesOf(2), ext(26, 1), ext(10)), bytesOf(2), bytesOf(10, 26, 42), 77}, dealWith(2)},
		{"MaxExts", handshake{hello(bytesOf(4), six...), bytesOf(4), bytesOf(1, 2, 3, 4, 5, 6), 77}, dealWith(4, 6, 5, 4, 3, 2, 1)},
		{"the longest hello", handshake{hello(allVersions(), someExts()[len(someExts())-1]...), allVersions(), openTags, 77}, dealWith(9, 0, 51, 102, 153, 204, 255)},
		{"the least key", handshake{h, bytesOf(5), bytesOf(2), 1}, dealWith(5, 2)},
		{"the greatest key", handshake{h, bytesOf(5), bytesOf(2), impl.Modulus - 1}, dealWith(5, 2)},

		{"a key of 0", handshake{h, bytesOf(5), bytesOf(2), 0}, impl.Deal{}},
		{"a key of -1", handshake{h, bytesOf(5), bytesOf(2), -1}, impl.Deal{}},
		{"a key of Modulus", handshake{h, bytesOf(5), bytesOf(2), impl.Modulus}, impl.Deal{}},
		{"a key modulo Modulus", handshake{h, bytesOf(5), bytesOf(2), impl.Modulus + 77}, impl.Deal{}},
		{"a key below 0 modulo Modulus", handshake{h, bytesOf(5), bytesOf(2), 77 - impl.Modulus}, impl.Deal{}},
		{"the least int as key", handshake{h, bytesOf(5), bytesOf(2), math.MinInt}, impl.Deal{}},
		{"the greatest int as key", handshake{h, bytesOf(5), bytesOf(2), math.MaxInt}, impl.Deal{}},
		{"nothing in common", handshake{h, bytesOf(2), bytesOf(2), 77}, impl.Deal{}},
		{"nil versions", handshake{h, nil, bytesOf(2), 77}, impl.Deal{}},
		{"empty versions", handshake{h, []int{}, bytesOf(2), 77}, impl.Deal{}},
		{"falling versions", handshake{h, bytesOf(3, 1), bytesOf(2), 77}, impl.Deal{}},
		{"a version twice", handshake{h, bytesOf(3, 3), bytesOf(2), 77}, impl.Deal{}},
		{"a version of 0", handshake{h, bytesOf(0, 3), bytesOf(2), 77}, impl.Deal{}},
		{"a version of 10", handshake{h, bytesOf(3, 10), bytesOf(2), 77}, impl.Deal{}},
		{"the least int as version", handshake{h, bytesOf(math.MinInt, 3), bytesOf(2), 77}, impl.Deal{}},
		{"the greatest int as version", handshake{h, bytesOf(3, math.MaxInt), bytesOf(2), 77}, impl.Deal{}},
		{"the zero Hello", handshake{impl.Hello{}, bytesOf(3), bytesOf(2), 77}, impl.Deal{}},
		{"a hello with falling versions", handshake{hello(bytesOf(3, 1)), bytesOf(3), nil, 77}, impl.Deal{}},
		{"a hello with a version of 10", handshake{hello(bytesOf(3, 10)), bytesOf(3), nil, 77}, impl.Deal{}},
		{"a hello with a Tag twice", handshake{hello(bytesOf(3), ext(2), ext(2)), bytesOf(3), nil, 77}, impl.Deal{}},
		{"a hello with a Tag of 256", handshake{hello(bytesOf(3), ext(256)), bytesOf(3), nil, 77}, impl.Deal{}},
		{"a hello with seven extensions", handshake{hello(bytesOf(4), append(slices.Clone(six), ext(7))...), bytesOf(4), nil, 77}, impl.Deal{}},
		{"nothing valid", handshake{hello(bytesOf(0), ext(-1, -1)), bytesOf(0), bytesOf(-1), 0}, impl.Deal{}},
	}
	for _, c := range cases {
		checkDealIs(t, c.name, c.x.honest(), c.want)
		checkDealIs(t, c.name, c.x.run(), c.want)
		if got := dealBy(c.x.meeting(), c.x.key, 0); dealText(got) != dealText(c.want) {
			t.Errorf("%s: the test holds another deal: %v", c.name, got)
		}
	}
}

// The honest deal is what the answer says, with each valid key.
func TestHonestDealsAreTheAnswers(t *testing.T) {
	made := 0
	for i, h := range someHellos() {
		for k, tags := range tagLists(h) {
			versions := fewVersions()[(i+k)%len(fewVersions())]
			key := bytesOf(1, 2, 77, 1<<30, impl.Modulus-1)[(i+k)%5]
			chosen, ok := impl.ChooseAnswer(versions, tags, h)
			got := impl.HonestDeal(h, versions, tags, key)
			if got.Ok != ok || got.Version != chosen.Version || !slices.Equal(got.Tags, impl.TagsOf(chosen.Exts)) {
				t.Errorf("HonestDeal(%v, %v, %v, %d) is %v, with the answer %v, %v", h, versions, tags, key, got, chosen, ok)
			}
			if got.Ok {
				made++
			}
			if k%8 == 0 {
				checkAttack(t, "without edits", handshake{h, versions, tags, key})
			}
		}
	}
	if made < 3000 {
		t.Errorf("there are only %d deals", made)
	}
}

// attacks counts the attacks that leave the honest deal and those that leave none.
type attacks struct {
	same, none int
}

func (c *attacks) attack(t *testing.T, name string, x handshake, edits ...impl.Edit) {
	t.Helper()
	if checkAttack(t, name, x, edits...) {
		c.same++
	} else {
		c.none++
	}
}

func (c *attacks) checkAtLeast(t *testing.T, name string, same int, none int) {
	t.Helper()
	if c.same < same || c.none < none {
		t.Errorf("%s: %d attacks leave the deal and %d do not", name, c.same, c.none)
	}
}

func TestEverySingleEdit(t *testing.T) {
	met := &attacks{}
	for _, x := range someHandshakes() {
		for _, e := range editsAbout(x.h) {
			met.attack(t, "a single edit", x, e)
		}
		for kind := -1; kind <= 8; kind++ {
			for n := -1; n <= 12; n++ {
				met.attack(t, "a small edit", x, edit(kind, n))
			}
		}
	}
	for tag := -1; tag <= 256; tag++ {
		for _, kind := range bytesOf(impl.EdDropExt, impl.EdDropBack, impl.EdAddExt) {
			met.attack(t, "every tag", someHandshakes()[0], edit(kind, tag))
		}
	}
	met.checkAtLeast(t, "single edits", 1000, 500)
}

// An edit that changes what is sent is never overlooked, whichever kind it is of.
func TestEachEditThatChanges(t *testing.T) {
	h := hello(bytesOf(1, 2, 3), ext(2), ext(40, 9), ext(10))
	x := handshake{h, bytesOf(1, 2, 3, 9), bytesOf(2, 5, 40), 77}
	cases := []struct {
		name string
		e    impl.Edit
	}{
		{"the version chosen is dropped", edit(impl.EdDropVersion, 3)},
		{"a version that is not chosen is dropped", edit(impl.EdDropVersion, 1)},
		{"a version that the server has is added", edit(impl.EdAddVersion, 9)},
		{"a version that the server does not have is added", edit(impl.EdAddVersion, 7)},
		{"a known extension is dropped", edit(impl.EdDropExt, 2)},
		{"an extension with a Body is dropped", edit(impl.EdDropExt, 40)},
		{"a reserved extension is dropped", edit(impl.EdDropExt, 10)},
		{"an older version is set", edit(impl.EdSetVersion, 1)},
		{"a version that was not offered is set", edit(impl.EdSetVersion, 9)},
		{"a version of nobody is set", edit(impl.EdSetVersion, 7)},
		{"an extension is dropped on its way back", edit(impl.EdDropBack, 2)},
		{"an extension with a Body is dropped on its way back", edit(impl.EdDropBack, 40)},
		{"a known extension is added", edit(impl.EdAddExt, 5)},
		{"an unknown extension is added", edit(impl.EdAddExt, 99)},
		{"a reserved extension is added", edit(impl.EdAddExt, 26)},
	}
	checkDealIs(t, "without edits", x.honest(), dealWith(3, 2, 40))
	for _, c := range cases {
		if m := x.meeting(c.e); !m.isChanged() || m.hasOneValue() {
			t.Errorf("%s: %v does not change what is sent", c.name, c.e)
		}
		checkDealIs(t, c.name, x.run(c.e), impl.Deal{})
		// What changes nothing else does not hide it.
		for n := 1; n < impl.MaxEdits; n++ {
			edits := slices.Insert(make([]impl.Edit, n), n/2, c.e)
			checkDealIs(t, c.name+", with others", x.run(edits...), impl.Deal{})
		}
	}
}

// harmless returns edits that change nothing in a handshake.
func harmless(x handshake) []impl.Edit {
	tags := impl.TagsOf(x.h.Exts)
	edits := editsOf(
		impl.Edit{}, edit(0, 1), edit(0, 3), edit(-1, 1), edit(-5, 40), edit(7, 1), edit(7, 2), edit(math.MinInt, 1), edit(math.MaxInt, 1), edit(1<<32+1, 3),
		edit(impl.EdSetVersion, x.honest().Version),
	)
	for n := -2; n <= 300; n++ {
		if !slices.Contains(x.h.Versions, n) || len(x.h.Versions) == 1 {
			edits = append(edits, edit(impl.EdDropVersion, n))
		}
		if slices.Contains(x.h.Versions, n) || n < 1 || n > 9 {
			edits = append(edits, edit(impl.EdAddVersion, n))
		}
		if !slices.Contains(tags, n) {
			edits = append(edits, edit(impl.EdDropExt, n))
		}
		if n < 1 || n > 9 {
			edits = append(edits, edit(impl.EdSetVersion, n))
		}
		if !slices.Contains(x.honest().Tags, n) {
			edits = append(edits, edit(impl.EdDropBack, n))
		}
		if slices.Contains(tags, n) || n < 0 || n > 255 || len(tags) == impl.MaxExts {
			edits = append(edits, edit(impl.EdAddExt, n))
		}
	}
	for kind := 1; kind <= 6; kind++ {
		edits = append(edits, edit(kind, math.MinInt), edit(kind, math.MaxInt), edit(kind, 1<<32+1), edit(kind, 1<<32+2))
	}
	return edits
}

func TestEditsThatChangeNothing(t *testing.T) {
	for _, x := range someHandshakes() {
		honest := x.honest()
		if !honest.Ok {
			t.Fatalf("there is no deal of %s", x.text())
		}
		edits := harmless(x)
		for i, e := range edits {
			checkDealIs(t, fmt.Sprint(e), x.run(e), honest)
			// So many of them as there may be change nothing either, and one more is
			// one too many.
			many := slices.Concat(edits[i:], edits)[:impl.MaxEdits+1]
			checkDealIs(t, fmt.Sprint(many[:impl.MaxEdits]), x.run(many[:impl.MaxEdits]...), honest)
			checkDealIs(t, fmt.Sprint(many), x.run(many...), impl.Deal{})
			checkEditHello(t, "harmless", x.h, e, x.h)
		}
		for count := range 20 {
			want := honest
			if count > impl.MaxEdits {
				want = impl.Deal{}
			}
			checkDealIs(t, "zero edits", x.run(make([]impl.Edit, count)...), want)
		}
		checkDealIs(t, "edits in the spare capacity", x.run(make([]impl.Edit, 7)[:6]...), honest)
		checkDealIs(t, "very many edits", x.run(make([]impl.Edit, 100000)...), impl.Deal{})
	}
}

// Two edits that undo each other change nothing, unless the second one comes too early.
func TestEditsThatUndoEachOther(t *testing.T) {
	h := hello(bytesOf(1, 2, 3), ext(2), ext(40, 9), ext(7))
	x := handshake{h, bytesOf(1, 2, 3, 9), bytesOf(2, 5, 40), 77}
	six := hello(bytesOf(1, 2, 3), ext(6), ext(5), ext(4), ext(3), ext(2), ext(1))
	one := hello(bytesOf(4), ext(10))
	cases := []struct {
		name  string
		x     handshake
		edits []impl.Edit
		want  bool
	}{
		{"dropped and added", x, editsOf(edit(impl.EdDropVersion, 3), edit(impl.EdAddVersion, 3)), true},
		{"a version between dropped and added", x, editsOf(edit(impl.EdDropVersion, 2), edit(impl.EdAddVersion, 2)), true},
		{"added and dropped", x, editsOf(edit(impl.EdAddVersion, 9), edit(impl.EdDropVersion, 9)), true},
		{"an extension added and dropped", x, editsOf(edit(impl.EdAddExt, 5), edit(impl.EdDropExt, 5)), true},
		{"the last extension dropped and added", x, editsOf(edit(impl.EdDropExt, 7), edit(impl.EdAddExt, 7)), true},
		{"the last one of MaxExts dropped and added", handshake{six, bytesOf(3), bytesOf(1, 2), 77}, editsOf(edit(impl.EdDropExt, 1), edit(impl.EdAddExt, 1)), true},
		{"the only extension dropped and added", handshake{one, bytesOf(4), bytesOf(10), 77}, editsOf(edit(impl.EdDropExt, 10), edit(impl.EdAddExt, 10)), true},
		{"a version set and set back", x, editsOf(edit(impl.EdSetVersion, 1), edit(impl.EdSetVersion, 3)), true},
		{"a version set that was not offered, and set back", x, editsOf(edit(impl.EdSetVersion, 9), edit(impl.EdSetVersion, 3)), true},
		{"the only version replaced and put back", handshake{one, bytesOf(4), nil, 77},
			editsOf(edit(impl.EdAddVersion, 5), edit(impl.EdDropVersion, 4), edit(impl.EdAddVersion, 4), edit(impl.EdDropVersion, 5)), true},
		{"nothing in common on the way", handshake{hello(bytesOf(2, 6)), bytesOf(6, 7), nil, 77}, editsOf(edit(impl.EdDropVersion, 6), edit(impl.EdAddVersion, 6)), true},
		{"two pairs, one in the other", x, editsOf(edit(impl.EdDropVersion, 3), edit(impl.EdSetVersion, 1), edit(impl.EdSetVersion, 3), edit(impl.EdAddVersion, 3)), true},
		{"three pairs", x, editsOf(edit(impl.EdDropVersion, 3), edit(impl.EdAddVersion, 3), edit(impl.EdAddExt, 5), edit(impl.EdDropExt, 5), edit(impl.EdSetVersion, 1), edit(impl.EdSetVersion, 3)), true},
		{"a hello edited behind an answer", x, editsOf(edit(impl.EdSetVersion, 1), edit(impl.EdDropVersion, 3), edit(impl.EdSetVersion, 3), edit(impl.EdAddVersion, 3)), true},

		{"added, which changes nothing, and dropped", x, editsOf(edit(impl.EdAddVersion, 3), edit(impl.EdDropVersion, 3)), false},
		{"dropped, which changes nothing, and added", x, editsOf(edit(impl.EdDropVersion, 9), edit(impl.EdAddVersion, 9)), false},
		{"an extension added, which changes nothing, and dropped", x, editsOf(edit(impl.EdAddExt, 7), edit(impl.EdDropExt, 7)), false},
		{"an extension dropped, which changes nothing, and added", x, editsOf(edit(impl.EdDropExt, 5), edit(impl.EdAddExt, 5)), false},
		{"one of MaxExts added, which changes nothing, and dropped", handshake{six, bytesOf(3), nil, 77}, editsOf(edit(impl.EdAddExt, 1), edit(impl.EdDropExt, 1)), false},
		{"one more than MaxExts added and one dropped", handshake{six, bytesOf(3), nil, 77}, editsOf(edit(impl.EdAddExt, 7), edit(impl.EdDropExt, 1)), false},
		{"a version set back and set", x, editsOf(edit(impl.EdSetVersion, 3), edit(impl.EdSetVersion, 1)), false},
		{"an extension dropped and added behind others", x, editsOf(edit(impl.EdDropExt, 2), edit(impl.EdAddExt, 2)), false},
		{"an extension with a Body dropped and added", x, editsOf(edit(impl.EdDropExt, 40), edit(impl.EdAddExt, 40)), false},
		{"an extension dropped on its way back and added to the hello", x, editsOf(edit(impl.EdDropBack, 2), edit(impl.EdAddExt, 2)), false},
		{"an older hello with the newer version set", x, editsOf(edit(impl.EdDropVersion, 3), edit(impl.EdSetVersion, 3)), false},
		{"a newer hello with the offered version set", x, editsOf(edit(impl.EdAddVersion, 9), edit(impl.EdSetVersion, 3)), false},
		{"an extension added and dropped on its way back", x, editsOf(edit(impl.EdAddExt, 5), edit(impl.EdDropBack, 5)), false},
		{"another version dropped and added", x, editsOf(edit(impl.EdDropVersion, 3), edit(impl.EdAddVersion, 9)), false},
	}
	for _, c := range cases {
		honest := c.x.honest()
		if !honest.Ok {
			t.Fatalf("%s: there is no deal", c.name)
		}
		if !c.want {
			honest = impl.Deal{}
		}
		checkDealIs(t, c.name, c.x.run(c.edits...), honest)
		if checkAttack(t, c.name, c.x, c.edits...) != c.want {
			t.Errorf("%s: the test holds another answer", c.name)
		}
	}
}

// Each pair that undoes itself is tried in each handshake, in both orders.
func TestEveryPairThatUndoesItself(t *testing.T) {
	undone, early := 0, 0
	check := func(x handshake, first impl.Edit, second impl.Edit, undoes bool) {
		t.Helper()
		if got := checkAttack(t, "a pair", x, first, second); got != undoes {
			t.Errorf("the edits %v and %v of %s: %v", first, second, x.text(), got)
		}
		if undoes {
			undone++
		}
		if !checkAttack(t, "a pair the other way round", x, second, first) {
			early++
		}
	}
	for _, x := range someHandshakes() {
		for v := 1; v <= 9; v++ {
			drop, add := edit(impl.EdDropVersion, v), edit(impl.EdAddVersion, v)
			if !slices.Contains(x.h.Versions, v) {
				check(x, add, drop, true)
			} else if len(x.h.Versions) > 1 {
				check(x, drop, add, true)
			}
			check(x, edit(impl.EdSetVersion, v), edit(impl.EdSetVersion, x.honest().Version), true)
		}
		for tag := 0; tag < 256; tag += 5 {
			if !slices.Contains(impl.TagsOf(x.h.Exts), tag) && len(x.h.Exts) < 6 {
				check(x, edit(impl.EdAddExt, tag), edit(impl.EdDropExt, tag), true)
			}
		}
		for i, extension := range x.h.Exts {
			isLast := i == len(x.h.Exts)-1 && len(extension.Body) == 0
			check(x, edit(impl.EdDropExt, extension.Tag), edit(impl.EdAddExt, extension.Tag), isLast)
		}
	}
	if undone < 400 || early < 400 {
		t.Errorf("%d pairs undo themselves, and %d do not the other way round", undone, early)
	}
}

// fewEdits returns edits of each kind that change something in a handshake, alone or
// with others, and some that never do.
func fewEdits(x handshake) []impl.Edit {
	least, greatest := x.h.Versions[0], slices.Max(x.h.Versions)
	edits := editsOf(
		edit(impl.EdDropVersion, least), edit(impl.EdDropVersion, greatest), edit(impl.EdAddVersion, least), edit(impl.EdAddVersion, greatest),
		edit(impl.EdAddVersion, 8), edit(impl.EdDropVersion, 8), edit(impl.EdSetVersion, 1), edit(impl.EdSetVersion, x.honest().Version),
		edit(impl.EdAddExt, 5), edit(impl.EdDropExt, 5), edit(impl.EdDropBack, 5), edit(0, 5), edit(7, 1),
	)
	for i, extension := range x.h.Exts {
		if i == 0 || i == len(x.h.Exts)-1 {
			tag := extension.Tag
			edits = append(edits, edit(impl.EdDropExt, tag), edit(impl.EdAddExt, tag), edit(impl.EdDropBack, tag))
		}
	}
	return edits
}

func TestEveryTwoEdits(t *testing.T) {
	met := &attacks{}
	for _, x := range someHandshakes() {
		for _, first := range fewEdits(x) {
			for _, second := range fewEdits(x) {
				met.attack(t, "two edits", x, first, second)
			}
		}
	}
	met.checkAtLeast(t, "two edits", 500, 1500)
}

// Of a few edits, every sequence of up to MaxEdits + 1 is tried.
func TestEverySequenceOfAFewEdits(t *testing.T) {
	sets := [][]impl.Edit{
		editsOf(edit(impl.EdDropVersion, 3), edit(impl.EdAddVersion, 3)), editsOf(edit(impl.EdAddExt, 5), edit(impl.EdDropExt, 5)),
		editsOf(edit(impl.EdSetVersion, 1), edit(impl.EdSetVersion, 3)), editsOf(edit(impl.EdDropVersion, 3), edit(impl.EdSetVersion, 3), edit(impl.EdAddVersion, 3)),
		editsOf(edit(impl.EdDropBack, 2), edit(impl.EdAddExt, 2), edit(impl.EdDropExt, 2)),
	}
	x := someHandshakes()[0]
	for _, set := range sets {
		met := &attacks{}
		var places []int
		for i := range set {
			places = append(places, i)
		}
		eachList(places, impl.MaxEdits+1, func(chosen []int) {
			var edits []impl.Edit
			for _, i := range chosen {
				edits = append(edits, set[i])
			}
			met.attack(t, "a sequence", x, edits...)
		})
		met.checkAtLeast(t, fmt.Sprint(set), 3, 30)
	}
}

// editByChance prefers what a hello or an earlier edit has, so that edits undo others.
func editByChance(pick *rand.Rand, h impl.Hello, earlier []impl.Edit) impl.Edit {
	kind := pick.IntN(8)
	if len(earlier) > 0 && pick.IntN(2) == 0 {
		last := earlier[pick.IntN(len(earlier))]
		return edit(map[int]int{1: 2, 2: 1, 3: 6, 6: 3, 4: 4, 5: 5}[last.Kind], last.N)
	}
	numbers := slices.Concat(h.Versions, impl.TagsOf(h.Exts), allVersions(), bytesOf(0, 10, 26, 255, 256, -1))
	return edit(kind, numbers[pick.IntN(len(numbers))])
}

func TestEditsByChance(t *testing.T) {
	met := &attacks{}
	for seed := range 6000 {
		pick := chance(seed)
		x := handshake{hello(versionsByChance(pick), extsByChance(pick)...), versionsByChance(pick), nil, 1 + pick.IntN(impl.Modulus-1)}
		if pick.IntN(4) > 0 {
			x.versions = allVersions()
		}
		x.tags = append(impl.TagsOf(extsByChance(pick)), impl.TagsOf(x.h.Exts)[:pick.IntN(len(x.h.Exts)+1)]...)
		var edits []impl.Edit
		for range pick.IntN(impl.MaxEdits + 2) {
			edits = append(edits, editByChance(pick, x.h, edits))
		}
		if !isHelloOf(x.h) {
			checkDealIs(t, "no hello", x.run(edits...), impl.Deal{})
			continue
		}
		met.attack(t, "by chance", x, edits...)
	}
	met.checkAtLeast(t, "by chance", 800, 2000)
}

// What is not valid comes to no deal, and no edit heals it.
func TestNoHandshakes(t *testing.T) {
	for i, h := range noHellos() {
		x := handshake{h, allVersions(), impl.TagsOf(h.Exts), 77}
		checkDealIs(t, "no hello", x.honest(), impl.Deal{})
		if i%5 == 0 {
			for _, e := range editsAbout(hello(h.Versions[:min(len(h.Versions), 3)], h.Exts[:min(len(h.Exts), 3)]...)) {
				checkDealIs(t, "no hello", x.run(e), impl.Deal{})
			}
		}
	}
	// The attacker could make these valid or answered on their way, but the client has
	// not sent them so.
	healed := []struct {
		x handshake
		e impl.Edit
	}{
		{handshake{hello(bytesOf(1), ext(5), ext(2), ext(5)), bytesOf(1), nil, 77}, edit(impl.EdDropExt, 5)},
		{handshake{hello(bytesOf(1), ext(256)), bytesOf(1), nil, 77}, edit(impl.EdDropExt, 256)},
		{handshake{hello(bytesOf(1), make([]impl.Ext, 9)...), bytesOf(1), nil, 77}, edit(impl.EdDropExt, 0)},
		{handshake{hello(bytesOf(1, 2)), bytesOf(3), nil, 77}, edit(impl.EdAddVersion, 3)},
	}
	for _, c := range healed {
		checkDealIs(t, "healed", c.x.honest(), impl.Deal{})
		checkDealIs(t, "healed", checkHandshake(t, "healed", c.x, c.e), impl.Deal{})
		if _, ok := impl.ChooseAnswer(c.x.versions, c.x.tags, impl.EditHello(c.x.h, c.e)); !ok {
			t.Errorf("%v does not heal %v", c.e, c.x.h)
		}
	}
	for _, x := range someHandshakes() {
		for _, versions := range noVersions() {
			wrong := handshake{x.h, versions, x.tags, x.key}
			checkDealIs(t, "no versions", wrong.honest(), impl.Deal{})
			checkDealIs(t, "no versions", wrong.run(edit(impl.EdAddVersion, 1), edit(impl.EdSetVersion, 1)), impl.Deal{})
		}
		for _, key := range someKeys() {
			other := handshake{x.h, x.versions, x.tags, key}
			if isKey := key >= 1 && key < impl.Modulus; other.honest().Ok != isKey || other.run(impl.Edit{}).Ok != isKey {
				t.Errorf("with the key %d, HonestDeal of %s is %v", key, other.text(), other.honest())
			}
			checkHandshake(t, "any key", other)
			checkDealIs(t, "any key", other.run(edit(impl.EdAddExt, 99), edit(impl.EdDropExt, 99), edit(impl.EdSetVersion, 1+x.honest().Version%9)), impl.Deal{})
		}
	}
}

// A finish of 0 is none. The key of it is worked out for each side: both sides compare
// the finish of the one with the number 1.
func TestDealsWithAFinishOfZero(t *testing.T) {
	for _, x := range someHandshakes() {
		l, honest := x.meeting().client(), x.honest()
		for side := range 2 {
			x.key = keyOfFinish(l, side, 0)
			if finishOf(x.key, l, side) != 0 || !impl.IsValidKey(x.key) {
				t.Fatalf("%d is not the key that the test looks for", x.key)
			}
			want := honest
			if side == 1 {
				want = impl.Deal{}
			}
			checkDealIs(t, "a finish of 0", x.honest(), want)
			checkDealIs(t, "a finish of 0", x.run(edit(impl.EdDropVersion, 10)), want)
			checkDealIs(t, "a finish of 0", x.run(edit(impl.EdSetVersion, 1+honest.Version%9)), impl.Deal{})
		}
		// Any other number is a finish.
		for _, finish := range bytesOf(1, 2, impl.Modulus-1) {
			x.key = keyOfFinish(l, 1, finish)
			if impl.IsValidKey(x.key) {
				checkDealIs(t, "any finish", x.honest(), honest)
			}
		}
	}
}

// valueBefore returns the hash of a hello with which a transcript of it and of an answer
// has a value.
func valueBefore(a impl.Answer, value int) int {
	b := answerBytesOf(a)
	return rootOf(func(hash int) int { return hashOf(slices.Concat(bytesOf(hash, len(b)), b)...) }, value)
}

// equalValues works out a hello with one extension more, which the server does not know.
// Its Body is such that both sides have the same value after the edits, although it is
// dropped on its way.
func equalValues(t *testing.T, x handshake, edits []impl.Edit) (handshake, []impl.Edit) {
	t.Helper()
	for tag := 100; tag < 150; tag++ {
		all := append(editsOf(edit(impl.EdDropExt, tag)), edits...)
		found := x
		found.h = hello(x.h.Versions, append(slices.Clone(x.h.Exts), ext(tag, 0, 0, 0, 0))...)
		m := found.meeting(all...)
		want := valueBefore(m.got, transcriptHashOf(m.server()))
		body := fourNumbers(allBytes(0), want-transcriptHashOf(m.client()[:1]))
		if body == nil || isReservedTag(tag) {
			continue
		}
		copy(found.h.Exts[len(x.h.Exts)].Body, body)
		if m = found.meeting(all...); !m.answered || !m.isChanged() || !m.hasOneValue() {
			t.Fatalf("the edits %v of %s do not bring about an equality", all, found.text())
		}
		return found, all
	}
	t.Fatalf("there are no other bytes with the same value for %s", x.text())
	return x, nil
}

// TranscriptHash is not one to one: the sides go by their values, not by what they do
// not know. The answer that arrives has to fit the hello all the same.
func TestOtherBytesWithTheSameValue(t *testing.T) {
	h := hello(bytesOf(1, 2, 3), ext(2, 9), ext(40))
	x := handshake{h, bytesOf(1, 2, 3, 9), bytesOf(2, 5), 77}
	cases := []struct {
		name  string
		edits []impl.Edit
		want  impl.Deal
	}{
		{"the same answer", nil, dealWith(3, 2)},
		{"an older version", editsOf(edit(impl.EdDropVersion, 3)), dealWith(2, 2)},
		{"the oldest version", editsOf(edit(impl.EdDropVersion, 3), edit(impl.EdDropVersion, 2)), dealWith(1, 2)},
		{"an extension less", editsOf(edit(impl.EdDropExt, 2)), dealWith(3)},
		{"an unknown extension more", editsOf(edit(impl.EdAddExt, 99)), dealWith(3, 2)},
		{"a version that was not offered", editsOf(edit(impl.EdAddVersion, 9)), impl.Deal{}},
		{"an extension that was not offered", editsOf(edit(impl.EdAddExt, 5)), impl.Deal{}},
		{"an older version set", editsOf(edit(impl.EdSetVersion, 1)), dealWith(1, 2)},
		{"a version set that was not offered", editsOf(edit(impl.EdSetVersion, 9)), impl.Deal{}},
		{"a version set that the server did not choose", editsOf(edit(impl.EdAddVersion, 9), edit(impl.EdSetVersion, 2)), dealWith(2, 2)},
		{"an extension dropped on its way back", editsOf(edit(impl.EdDropBack, 2)), dealWith(3)},
		{"an extension that was not offered, dropped on its way back", editsOf(edit(impl.EdAddExt, 5), edit(impl.EdDropBack, 5)), dealWith(3, 2)},
	}
	for _, c := range cases {
		found, edits := equalValues(t, x, c.edits)
		for _, key := range bytesOf(1, 77, impl.Modulus-1) {
			found.key = key
			checkDealIs(t, c.name, found.run(edits...), c.want)
			checkHandshake(t, c.name, found, edits...)
			checkDealIs(t, c.name+", without edits", found.honest(), dealWith(3, 2))
		}
		// Without an equality, the same edits come to nothing.
		found.h.Exts[len(h.Exts)].Body[0] ^= 1
		checkDealIs(t, c.name+", with another Body", found.run(edits...), impl.Deal{})
	}
}

func TestEqualDeals(t *testing.T) {
	cases := []struct {
		name string
		a, b impl.Deal
		want bool
	}{
		{"both zero", impl.Deal{}, impl.Deal{}, true},
		{"nil and empty Tags", impl.Deal{}, impl.Deal{Tags: []int{}}, true},
		{"nil and empty Tags of a deal", dealWith(3), impl.Deal{Ok: true, Version: 3, Tags: []int{}}, true},
		{"Tags in the spare capacity", dealWith(3, bytesOf(1, 2)[:1]...), dealWith(3, bytesOf(1, 3)[:1]...), true},
		{"equal", dealWith(3, 2, 40), dealWith(3, 2, 40), true},
		{"deals that are none", impl.Deal{Version: -1, Tags: bytesOf(300, 300)}, impl.Deal{Version: -1, Tags: bytesOf(300, 300)}, true},
		{"the least and the greatest int", dealWith(math.MinInt, math.MaxInt), dealWith(math.MinInt, math.MaxInt), true},
		{"another Ok", dealWith(3, 2), impl.Deal{Version: 3, Tags: bytesOf(2)}, false},
		{"another Ok alone", impl.Deal{}, impl.Deal{Ok: true}, false},
		{"another Version", dealWith(3, 2), dealWith(2, 2), false},
		{"another Version alone", impl.Deal{}, impl.Deal{Version: 1}, false},
		{"the Version of the low bits", dealWith(3), dealWith(1<<32 + 3), false},
		{"the least or the greatest Version", dealWith(math.MinInt), dealWith(math.MaxInt), false},
		{"no Tags", dealWith(3, 2), dealWith(3), false},
		{"a Tag of 0", impl.Deal{}, impl.Deal{Tags: bytesOf(0)}, false},
		{"another Tag", dealWith(3, 2, 40), dealWith(3, 2, 41), false},
		{"another first Tag", dealWith(3, 2, 40), dealWith(3, 1, 40), false},
		{"another order", dealWith(3, 2, 40), dealWith(3, 40, 2), false},
		{"a Tag more", dealWith(3, 2, 40), dealWith(3, 2, 40, 0), false},
		{"a Tag twice", dealWith(3, 2), dealWith(3, 2, 2), false},
		{"the Tag of the low bits", dealWith(3, 2), dealWith(3, 1<<32+2), false},
		{"the least or the greatest Tag", dealWith(3, math.MinInt), dealWith(3, math.MaxInt), false},
		{"a Version that is a Tag", dealWith(3, 2), dealWith(2, 3), false},
	}
	var deals []impl.Deal
	for _, c := range cases {
		if got, back := impl.EqualDeals(c.a, c.b), impl.EqualDeals(c.b, c.a); got != c.want || back != c.want {
			t.Errorf("%s: EqualDeals(%v, %v) is %v, and %v the other way round", c.name, c.a, c.b, got, back)
		}
		deals = append(deals, c.a, c.b)
	}
	for _, a := range deals {
		for _, b := range deals {
			if got, want := impl.EqualDeals(a, b), dealText(a) == dealText(b); got != want {
				t.Errorf("EqualDeals(%v, %v) is %v", a, b, got)
			}
		}
	}
}

// Any int may stand in every place.
func TestHandshakesWithAnyIntEverywhere(t *testing.T) {
	for _, n := range append(byteLimits(), 8, 9, 10, impl.Modulus, impl.Modulus-1) {
		for _, kind := range editKinds() {
			for _, h := range []impl.Hello{hello(bytesOf(1, 2), ext(2, 9)), hello(bytesOf(n), ext(n, n)), hello(bytesOf(1, n), ext(n), ext(1), ext(n)), hello(bytesOf(2), make([]impl.Ext, 6)...)} {
				e := edit(kind, n)
				checkEditHello(t, "any int", h, e, editedHello(h, e))
				checkEditAnswer(t, "any int", answer(n, h.Exts...), e, editedAnswer(answer(n, h.Exts...), e))
				checkHandshake(t, "any int", handshake{h, bytesOf(1, 2), bytesOf(n, 2), 77}, e, edit(n, kind))
			}
		}
		for size := range 9 {
			edits := slices.Repeat(editsOf(edit(n, n)), size)
			checkHandshake(t, "one number", handshake{hello(bytesOf(1, 9), ext(2)), bytesOf(1, 9), bytesOf(2), 77}, edits...)
			checkHandshake(t, "one number everywhere", handshake{hello(bytesOf(n), ext(n)), bytesOf(n), bytesOf(n), n}, edits...)
			checkHandshake(t, "one number as the key", handshake{hello(bytesOf(1)), bytesOf(1), nil, n}, make([]impl.Edit, size)...)
		}
	}
}

func TestLongHandshakes(t *testing.T) {
	const many = 100000
	var numbers []int
	for i := range many {
		numbers = append(numbers, i)
	}
	exts := make([]impl.Ext, 3000)
	for i := range exts {
		exts[i].Tag = i % 300
	}
	h := hello(bytesOf(1, 9), ext(2, 9), ext(10), ext(99, 1))
	for _, e := range editsOf(edit(impl.EdDropVersion, 5), edit(impl.EdAddVersion, 5), edit(impl.EdDropExt, 5), edit(impl.EdAddExt, 5), edit(impl.EdDropBack, 5), edit(impl.EdSetVersion, 5), impl.Edit{}) {
		for _, long := range []impl.Hello{hello(numbers, h.Exts...), hello(h.Versions, exts...), hello(numbers, exts...), hello(bytesOf(1), ext(5, numbers...))} {
			checkEditHello(t, "a long hello", long, e, editedHello(long, e))
			a := impl.Answer{Version: 5, Exts: long.Exts}
			checkEditAnswer(t, "a long answer", a, e, editedAnswer(a, e))
			checkDealIs(t, "a long hello", handshake{long, allVersions(), numbers, 77}.run(e), impl.Deal{})
		}
	}
	checkDealIs(t, "many tags", impl.HonestDeal(h, bytesOf(1, 2), numbers, 77), dealWith(1, 2, 99))
	checkDealIs(t, "many versions", impl.HonestDeal(h, numbers[1:], numbers, 77), impl.Deal{})
	checkDealIs(t, "long equal deals", dealWith(1, numbers...), dealWith(1, slices.Clone(numbers)...))
}

// marked returns a copy with marks in the spare capacity of all lists.
func (x handshake) marked() handshake {
	return handshake{markedHello(x.h), markedBytes(x.versions), markedBytes(x.tags), x.key}
}

// markedEdits returns a copy with marks in its spare capacity.
func markedEdits(edits []impl.Edit) []impl.Edit {
	return append(slices.Clone(edits), slices.Repeat(editsOf(edit(78, 79)), 8)...)[:len(edits)]
}

// askHandshakes asks everything of the chapter and returns the answers as a text.
func askHandshakes(x handshake, edits []impl.Edit) string {
	a := impl.Answer{Version: 3, Exts: x.h.Exts}
	got, honest := x.run(edits...), x.honest()
	text := fmt.Sprint(got, honest, impl.EqualDeals(got, honest), impl.EqualDeals(honest, impl.Deal{Ok: true, Version: 1, Tags: x.tags}))
	for _, e := range edits {
		text += fmt.Sprint(impl.EditHello(x.h, e), impl.EditAnswer(a, e))
	}
	return text
}

// editLists returns lists of edits of each kind, also too long ones.
func editLists(x handshake) [][]impl.Edit {
	tags := append(impl.TagsOf(x.h.Exts), 5)
	return [][]impl.Edit{
		nil, {}, editsOf(edit(impl.EdDropVersion, 3), edit(impl.EdAddVersion, 3)), editsOf(edit(impl.EdDropVersion, 1), edit(impl.EdAddVersion, 4), edit(impl.EdSetVersion, 1)),
		editsOf(edit(impl.EdDropExt, tags[0]), edit(impl.EdAddExt, tags[0]), edit(impl.EdDropBack, tags[0])), editsOf(edit(impl.EdAddExt, 5), edit(impl.EdDropExt, 5)),
		editsOf(edit(0, 1), edit(7, 2), edit(impl.EdDropVersion, 10), edit(impl.EdAddVersion, 0), edit(impl.EdAddExt, 256), edit(impl.EdDropBack, -1)), make([]impl.Edit, 7),
	}
}

// mixedHandshakes returns handshakes with hellos that are valid and such that are not.
func mixedHandshakes() []handshake {
	all := someHandshakes()
	for i, h := range mixedHellos() {
		all = append(all, handshake{h, slices.Concat(fewVersions(), noVersions())[i%20], impl.TagsOf(h.Exts), someKeys()[i%12]})
	}
	return all
}

func TestHandshakesKeepArguments(t *testing.T) {
	for _, x := range mixedHandshakes() {
		x = x.marked()
		for _, edits := range editLists(x) {
			edits = markedEdits(edits)
			memory := func() string {
				return fmt.Sprint(memoryOfHello(x.h), whole(x.versions), whole(x.tags), len(edits), whole(edits))
			}
			before := memory()
			askHandshakes(x, edits)
			if memory() != before {
				t.Errorf("the arguments are changed from %s to %s", before, memory())
			}
		}
	}
}

// Also where nothing changes, everything that is returned is the caller's own.
func TestHandshakesShareNoMemory(t *testing.T) {
	for i, one := range mixedHandshakes() {
		for k, edits := range editLists(one) {
			if (i+k)%3 != 0 {
				continue
			}
			x := one.marked()
			a := impl.Answer{Version: 3, Exts: x.h.Exts}
			exts := [][]impl.Ext{whole(x.h.Exts)}
			numbers := append(bodiesOf(slices.Clone(x.h.Exts)), x.h.Versions, x.versions, x.tags)
			keep := func(l []impl.Ext, lists ...[]int) {
				exts = append(exts, whole(l))
				numbers = slices.Concat(numbers, bodiesOf(l), lists)
			}
			for range 2 {
				for _, e := range append(slices.Clone(edits), edit(9, 9)) {
					h := impl.EditHello(x.h, e)
					keep(h.Exts, h.Versions)
					keep(impl.EditAnswer(a, e).Exts)
				}
				keep(nil, x.run(edits...).Tags, x.honest().Tags)
			}
			for i, l := range numbers {
				numbers[i] = whole(l)
			}
			checkApart(t, x.text(), numbers)
			checkAllApart(t, x.text(), exts, func(x *impl.Ext) { x.Tag += 1000 })
		}
	}
}

// A Body that stands in a hello or in an answer twice stands in what is returned as two.
func TestEditsOfTheSameBody(t *testing.T) {
	body := markedBytes(bytesOf(1, 2, 3))
	h := hello(body[:2], ext(1, body...), ext(2, body...), ext(3, body[:0]...), ext(4, body[1:]...))
	for _, e := range editsOf(edit(impl.EdDropVersion, 1), edit(impl.EdAddVersion, 3), edit(impl.EdDropExt, 4), edit(impl.EdAddExt, 5), edit(impl.EdAddExt, 4), impl.Edit{}) {
		x, a := impl.EditHello(h, e), impl.EditAnswer(impl.Answer{Version: 1, Exts: h.Exts}, edit(impl.EdDropBack, e.N))
		if want := editedHello(h, e); helloText(x) != helloText(want) {
			t.Errorf("EditHello(%v, %v) is %v, not %v", h, e, x, want)
		}
		checkApart(t, "the same Body", slices.Concat(bodiesOf(x.Exts), bodiesOf(a.Exts), [][]int{whole(x.Versions)}))
		if memory := whole(body); !slices.Equal(memory, whole(markedBytes(bytesOf(1, 2, 3)))) {
			t.Fatalf("the Body is changed to %v", memory)
		}
	}
}

// What one call has met is not known to another.
func TestHandshakesKeepNoState(t *testing.T) {
	all := mixedHandshakes()
	ask := func(x handshake) string {
		text := ""
		for _, edits := range editLists(x) {
			text += askHandshakes(x, edits)
		}
		return text
	}
	var first []string
	for _, x := range all {
		first = append(first, ask(x))
	}
	for i, x := range slices.Backward(all) {
		if got := ask(x); got != first[i] {
			t.Errorf("of %.200s the answers are %.500s, not %.500s, after other calls", x.text(), got, first[i])
		}
	}
}

// A hello that is changed later changes the next deal and none that was made.
func TestHandshakesAreReadWhenAsked(t *testing.T) {
	h := hello(bytesOf(1, 3), ext(2, 9), ext(40, 1))
	x := handshake{h, allVersions(), bytesOf(2, 5, 10, 40), 77}
	edits := editsOf(edit(impl.EdDropExt, 2))
	deal, arrived := x.honest(), impl.EditHello(h, edits[0])
	wanted, before := dealText(deal), helloText(arrived)
	for _, n := range bytesOf(5, 10, 40, 256, -1, 2) {
		h.Exts[0].Tag, h.Exts[0].Body[0], h.Versions[1] = n, n+1, max(2, n%10)
		edits[0].N = n
		checkHandshake(t, "changed later", x)
		checkHandshake(t, "changed later", x, edits...)
		checkEditHello(t, "changed later", h, edits[0], hello(h.Versions, lacking(h.Exts, n)...))
		if dealText(deal) != wanted || helloText(arrived) != before {
			t.Errorf("what was given is changed to %v, %v", deal, arrived)
		}
	}
}
