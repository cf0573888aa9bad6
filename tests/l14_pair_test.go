package tests

import (
	"cmp"
	"fmt"
	"math"
	"slices"
	"testing"

	"loop.example/g03000/impl"
)

// Promise 14: a machine and its dual leave no message unread (chapter 14).

// couples puts numbers together two by two.
func couples(numbers ...int) [][]int {
	l := [][]int{}
	for pair := range slices.Chunk(numbers, 2) {
		l = append(l, slices.Clone(pair))
	}
	return l
}

// withEnds returns a machine with other Ends, also fewer or more than States.
func withEnds(x impl.Machine, ends ...bool) impl.Machine {
	return impl.Machine{States: x.States, Ends: ends, Moves: x.Moves}
}

func without(x impl.Machine, i int) impl.Machine {
	return impl.Machine{States: x.States, Ends: x.Ends, Moves: slices.Delete(slices.Clone(x.Moves), i, i+1)}
}

// isFirst reports whether the moves before i leave its From, Send and Msg to it.
func isFirst(x impl.Machine, i int) bool {
	return moveOf(x, x.Moves[i].From, x.Moves[i].Send, x.Moves[i].Msg) == i
}

// metOf works by another way than the program's: it holds every two moves against each
// other, of the same turn or of both turns, and sorts those that are made together.
func metOf(a impl.Machine, b impl.Machine, x int, y int, sameTurn bool) [][]int {
	type meeting struct{ turn, msg, to, other int }
	var meetings []meeting
	for i, m := range a.Moves {
		for k, n := range b.Moves {
			if m.From != x || n.From != y || m.Msg != n.Msg || (m.Send == n.Send) != sameTurn || !isFirst(a, i) || !isFirst(b, k) {
				continue
			}
			turn := 0
			if !m.Send {
				turn = 1
			}
			meetings = append(meetings, meeting{turn, m.Msg, m.To, n.To})
		}
	}
	slices.SortFunc(meetings, func(p meeting, q meeting) int {
		return cmp.Or(cmp.Compare(p.turn, q.turn), cmp.Compare(p.msg, q.msg))
	})
	l := [][]int{}
	for _, p := range meetings {
		l = append(l, bytesOf(p.to, p.other))
	}
	return l
}

func nextOf(a impl.Machine, b impl.Machine, x int, y int) [][]int {
	return metOf(a, b, x, y, false)
}

// reachedOf goes level by level and asks whether a pair was met only when its turn comes.
func reachedOf(a impl.Machine, b impl.Machine) [][]int {
	return levelsOf(a, b, false)
}

func levelsOf(a impl.Machine, b impl.Machine, sameTurn bool) [][]int {
	all, met := [][]int{}, map[[2]int]bool{}
	if !isMachineOf(a) || !isMachineOf(b) {
		return all
	}
	for level := couples(0, 0); len(level) > 0; {
		var deeper [][]int
		for _, p := range level {
			if !met[[2]int(p)] {
				met[[2]int(p)] = true
				all, deeper = append(all, p), append(deeper, metOf(a, b, p[0], p[1], sameTurn)...)
			}
		}
		level = deeper
	}
	return all
}

// leavesUnread reports whether a move of a that sends has no partner in b.
func leavesUnread(a impl.Machine, b impl.Machine, x int, y int) bool {
	for _, m := range a.Moves {
		partner := func(n impl.Move) bool { return n.From == y && !n.Send && n.Msg == m.Msg }
		if m.From == x && m.Send && !slices.ContainsFunc(b.Moves, partner) {
			return true
		}
	}
	return false
}

func stopsAt(x impl.Machine, state int) bool {
	for i, end := range x.Ends {
		if i == state {
			return end
		}
	}
	return false
}

func troubleOf(a impl.Machine, b impl.Machine, x int, y int) int {
	if leavesUnread(a, b, x, y) || leavesUnread(b, a, y, x) {
		return 1
	}
	if len(nextOf(a, b, x, y)) > 0 || stopsAt(a, x) && stopsAt(b, y) {
		return 0
	}
	return 2
}

// firstTroubleOf returns an empty list where there is none.
func firstTroubleOf(a impl.Machine, b impl.Machine) []int {
	for _, p := range reachedOf(a, b) {
		if troubleOf(a, b, p[0], p[1]) != 0 {
			return p
		}
	}
	return []int{}
}

func isSafeOf(a impl.Machine, b impl.Machine) bool {
	return isMachineOf(a) && isMachineOf(b) && len(firstTroubleOf(a, b)) == 0
}

func samePairs(a [][]int, b [][]int) bool {
	return slices.EqualFunc(a, b, slices.Equal[[]int])
}

// turnedPairs are the same pairs, seen from the other side.
func turnedPairs(l [][]int) [][]int {
	other := [][]int{}
	for _, p := range l {
		other = append(other, bytesOf(p[1], p[0]))
	}
	return other
}

func pairText(a impl.Machine, b impl.Machine) string {
	return machineText(a) + " and " + machineText(b)
}

func checkNext(t *testing.T, name string, a impl.Machine, b impl.Machine, x int, y int, want [][]int) {
	t.Helper()
	if got := impl.NextPairs(a, b, x, y); !samePairs(got, want) {
		t.Errorf("%s: NextPairs(%s, %d, %d) is %.300s, not %.300s", name, pairText(a, b), x, y, fmt.Sprint(got), fmt.Sprint(want))
	}
}

// checkTrouble asks from the other side as well: trouble is that of both.
func checkTrouble(t *testing.T, name string, a impl.Machine, b impl.Machine, x int, y int, want int) {
	t.Helper()
	if got := impl.TroubleAt(a, b, x, y); got != want {
		t.Errorf("%s: TroubleAt(%s, %d, %d) is %d, not %d", name, pairText(a, b), x, y, got, want)
	}
	if got := impl.TroubleAt(b, a, y, x); got != want {
		t.Errorf("%s: TroubleAt(%s, %d, %d) is %d, not %d", name, pairText(b, a), y, x, got, want)
	}
}

func checkReached(t *testing.T, name string, a impl.Machine, b impl.Machine, want [][]int) {
	t.Helper()
	if got := impl.PairsOf(a, b); !samePairs(got, want) {
		t.Errorf("%s: PairsOf(%s) is %v, not %v", name, pairText(a, b), got, want)
	}
}

func checkFirst(t *testing.T, name string, a impl.Machine, b impl.Machine, want []int) {
	t.Helper()
	if got := impl.FirstTrouble(a, b); !slices.Equal(got, want) {
		t.Errorf("%s: FirstTrouble(%s) is %v, not %v", name, pairText(a, b), got, want)
	}
}

// checkSafe asks from the other side as well.
func checkSafe(t *testing.T, name string, a impl.Machine, b impl.Machine, want bool) {
	t.Helper()
	if got := impl.IsSafe(a, b); got != want {
		t.Errorf("%s: IsSafe(%s) is %v", name, pairText(a, b), got)
	}
	if got := impl.IsSafe(b, a); got != want {
		t.Errorf("%s: IsSafe(%s) is %v", name, pairText(b, a), got)
	}
}

// checkTwo holds all that the program says of two machines against what the test works
// out, with each of them as the first one.
func checkTwo(t *testing.T, name string, a impl.Machine, b impl.Machine, states []int) {
	t.Helper()
	for _, x := range states {
		for _, y := range states {
			checkNext(t, name, a, b, x, y, nextOf(a, b, x, y))
			checkNext(t, name, b, a, y, x, nextOf(b, a, y, x))
			checkTrouble(t, name, a, b, x, y, troubleOf(a, b, x, y))
		}
	}
	checkReached(t, name, a, b, reachedOf(a, b))
	checkFirst(t, name, a, b, firstTroubleOf(a, b))
	checkSafe(t, name, a, b, isSafeOf(a, b))
	// In valid machines only one of the two sends at a time, so both sides see the same.
	checkReached(t, name, b, a, turnedPairs(reachedOf(a, b)))
	if first := firstTroubleOf(a, b); len(first) > 0 {
		checkFirst(t, name, b, a, bytesOf(first[1], first[0]))
	} else {
		checkFirst(t, name, b, a, nil)
	}
	checkGrown(t, name, a, b)
}

// checkGrown holds the pairs against the program's own NextPairs and TroubleAt.
func checkGrown(t *testing.T, name string, a impl.Machine, b impl.Machine) {
	t.Helper()
	pairs := impl.PairsOf(a, b)
	checkFound(t, name+": PairsOf", a, b, pairs, func(x int, y int) [][]int {
		return impl.NextPairs(a, b, x, y)
	})
	var first []int
	for _, p := range pairs {
		if first == nil && impl.TroubleAt(a, b, p[0], p[1]) != impl.PrFine {
			first = p
		}
	}
	checkFirst(t, name, a, b, first)
	checkSafe(t, name, a, b, len(pairs) > 0 && first == nil)
}

// checkFound holds pairs against the order in which they are found: the first pair first,
// then what follows each pair in order, each once.
func checkFound(t *testing.T, name string, a impl.Machine, b impl.Machine, pairs [][]int, next func(x int, y int) [][]int) {
	t.Helper()
	var found [][]int
	add := func(p []int) {
		if !slices.ContainsFunc(found, func(q []int) bool { return slices.Equal(p, q) }) {
			found = append(found, p)
		}
	}
	if len(pairs) > 0 {
		add(bytesOf(0, 0))
	}
	for i, p := range pairs {
		if i >= len(found) || !slices.Equal(found[i], p) {
			t.Errorf("%s(%s) is %v, and before the index %d, %v are found", name, pairText(a, b), pairs, i, found)
			return
		}
		for _, q := range next(p[0], p[1]) {
			add(q)
		}
	}
	if len(found) != len(pairs) {
		t.Errorf("%s(%s) is %v, and %v are found", name, pairText(a, b), pairs, found)
	}
}

// everyPair has MaxStates states and MaxMoves moves, as its partner has; together they
// come to every pair of states.
func everyPair() (impl.Machine, impl.Machine) {
	a, b := machine(6), machine(6)
	for state := range 6 {
		a.Moves = append(a.Moves, sends(state, 5, state), sends(state, 0, (state+1)%6))
		b.Moves = append(b.Moves, receives(state, 0, state), receives(state, 5, (state+1)%6))
	}
	return a, b
}

// spread comes to its last states by the lower message first.
func spread() impl.Machine {
	return machine(6, sends(0, 3, 2), sends(0, 1, 1), receives(1, 0, 3), receives(2, 1, 5), receives(2, 0, 4))
}

// stateLimits returns numbers about the limits of a state.
func stateLimits() []int {
	return bytesOf(math.MinInt, -1<<32, -1, 0, 1, 2, 3, 5, 6, 7, 1<<32, math.MaxInt)
}

func TestPairCodes(t *testing.T) {
	if got := bytesOf(impl.PrFine, impl.PrUnread, impl.PrStuck); !slices.Equal(got, bytesOf(0, 1, 2)) {
		t.Errorf("the codes are %v", got)
	}
}

func TestNextPairs(t *testing.T) {
	a, d := asker(), impl.DualOf(asker())
	sender := machine(4, sends(0, 5, 3), sends(0, 0, 1), sends(0, 3, 2))
	receiver := machine(4, receives(0, 3, 0), receives(0, 5, 1), receives(0, 0, 2), receives(0, 4, 3))
	same := machine(2, sends(0, 2, 1), sends(0, 0, 1), sends(0, 1, 0))
	full := greatest()
	all, partner := everyPair()
	cases := []struct {
		name string
		a, b impl.Machine
		x, y int
		want [][]int
	}{
		{"the first pair", a, d, 0, 0, couples(1, 1)},
		{"a pair behind", a, d, 1, 1, couples(2, 2, 0, 0)},
		{"a pair at the end", a, d, 2, 2, nil},
		{"the dual first", d, a, 1, 1, couples(2, 2, 0, 0)},
		{"both send", a, d, 0, 1, nil},
		{"both receive", a, d, 1, 0, nil},
		{"both send the same", a, a, 0, 0, nil},
		{"both receive the same", d, d, 0, 0, nil},
		{"one has no moves there", a, d, 0, 2, nil},
		{"the other one has no moves there", a, d, 2, 0, nil},
		{"messages ascend, moves do not", sender, receiver, 0, 0, couples(1, 2, 2, 0, 3, 1)},
		{"messages ascend, moves do not, the receiver first", receiver, sender, 0, 0, couples(2, 1, 0, 2, 1, 3)},
		{"some are not received", machine(3, sends(0, 0, 1), sends(0, 2, 2), sends(0, 4, 0)), machine(2, receives(0, 2, 1), receives(0, 3, 0)), 0, 0, couples(2, 1)},
		{"none is received", machine(2, sends(0, 0, 1)), machine(2, receives(0, 1, 1)), 0, 0, nil},
		{"received in another state", machine(2, sends(0, 0, 1)), machine(2, receives(1, 0, 1)), 0, 0, nil},
		{"several between the same states", same, impl.DualOf(same), 0, 0, couples(1, 1, 0, 0, 1, 1)},
		{"several between the same states, the receiver first", impl.DualOf(same), same, 0, 0, couples(1, 1, 0, 0, 1, 1)},
		{"all to the same pair", machine(1, sends(0, 1, 0), sends(0, 0, 0)), machine(1, receives(0, 0, 0), receives(0, 1, 0)), 0, 0, couples(0, 0, 0, 0)},
		{"the same To of one alone", machine(2, sends(0, 1, 1), sends(0, 0, 1)), machine(2, receives(0, 0, 0), receives(0, 1, 1)), 0, 0, couples(1, 0, 1, 1)},
		{"MaxStates states and MaxMoves moves", full, impl.DualOf(full), 0, 0, couples(1, 1, 5, 5)},
		{"MaxStates states, the last pair", full, impl.DualOf(full), 5, 5, couples(0, 0, 4, 4)},
		{"other states than those that are reached", all, partner, 4, 5, couples(5, 5, 4, 0)},
		{"without moves", machine(1), machine(1), 0, 0, nil},
		{"without moves of one", machine(1), machine(1, receives(0, 0, 0)), 0, 0, nil},
		{"the zero values", impl.Machine{}, impl.Machine{}, 0, 0, nil},
		{"a move in the spare capacity", machine(1, []impl.Move{sends(0, 0, 0), sends(0, 1, 0)}[:1]...), machine(1, receives(0, 1, 0)), 0, 0, nil},
	}
	for _, c := range cases {
		checkNext(t, c.name, c.a, c.b, c.x, c.y, c.want)
		if got := nextOf(c.a, c.b, c.x, c.y); !samePairs(got, c.want) {
			t.Errorf("%s: the test's own answer is %v", c.name, got)
		}
		checkTwo(t, c.name, c.a, c.b, stateLimits())
	}
}

// What follows a pair is asked of machines that are not valid too.
func TestNextPairsOfNoMachines(t *testing.T) {
	a := impl.Machine{Moves: []impl.Move{receives(0, 0, 1), sends(0, 4, 2), receives(0, 3, 3), sends(0, 2, 4)}}
	b := impl.Machine{Moves: []impl.Move{receives(0, 2, 5), sends(0, 3, 6), sends(0, 0, 7), receives(0, 4, 8)}}
	both := impl.Machine{States: 1, Moves: []impl.Move{receives(0, 1, 2), sends(0, 1, 3)}}
	several := machine(2, sends(0, 1, 5), sends(0, 1, 6), sends(0, 0, 7), sends(0, 1, 8))
	others := machine(2, receives(0, 0, 1), receives(0, 1, 2), receives(0, 0, 3), receives(0, 1, 4))
	beyond := machine(1, sends(-1, 6, math.MaxInt), sends(-1, math.MaxInt, -1), sends(-1, math.MinInt, 0), sends(-1, -1, math.MinInt))
	below := machine(1, receives(math.MaxInt, -1, 1), receives(math.MaxInt, math.MinInt, 2), receives(math.MaxInt, math.MaxInt, 3), receives(math.MaxInt, 6, 4))
	outside := impl.Machine{States: 2, Ends: []bool{true}, Moves: []impl.Move{sends(2, 0, 9), receives(math.MinInt, 0, 8)}}
	cases := []struct {
		name string
		a, b impl.Machine
		x, y int
		want [][]int
	}{
		{"both turns: what the first one sends comes first", a, b, 0, 0, couples(4, 5, 2, 8, 1, 7, 3, 6)},
		{"both turns, the other machine first", b, a, 0, 0, couples(7, 1, 6, 3, 5, 4, 8, 2)},
		{"the same message in both turns", both, both, 0, 0, couples(3, 2, 2, 3)},
		{"the first move of several, each message once", several, others, 0, 0, couples(7, 1, 5, 2)},
		{"the first move of several, the receiver first", others, several, 0, 0, couples(1, 7, 2, 5)},
		{"several of the sender alone", several, machine(1, receives(0, 1, 0)), 0, 0, couples(5, 0)},
		{"several of the receiver alone", machine(1, sends(0, 1, 0)), others, 0, 0, couples(0, 2)},
		{"ints beyond all limits", beyond, below, -1, math.MaxInt, couples(0, 2, math.MinInt, 1, math.MaxInt, 4, -1, 3)},
		{"ints beyond all limits, the receiver first", below, beyond, math.MaxInt, -1, couples(2, 0, 1, math.MinInt, 4, math.MaxInt, 3, -1)},
		{"the state States", outside, outside, 2, math.MinInt, couples(9, 8)},
		{"the least int", outside, outside, math.MinInt, 2, couples(8, 9)},
		{"the same number modulo 2^32", outside, outside, 2 + 1<<32, math.MinInt, nil},
		{"no such states", asker(), impl.DualOf(asker()), -1, 3, nil},
		{"no such states, the ints about", asker(), impl.DualOf(asker()), math.MinInt, math.MaxInt, nil},
		{"moves without states", impl.Machine{Moves: []impl.Move{{}}}, impl.Machine{Moves: []impl.Move{{Send: true}}}, 0, 0, couples(0, 0)},
		{"a machine and itself", both, several, 0, 0, couples(2, 5)},
	}
	for _, c := range cases {
		checkNext(t, c.name, c.a, c.b, c.x, c.y, c.want)
		if got := nextOf(c.a, c.b, c.x, c.y); !samePairs(got, c.want) {
			t.Errorf("%s: the test's own answer is %v", c.name, got)
		}
		checkTwo(t, c.name, c.a, c.b, stateLimits())
	}
}

func TestTroubleAt(t *testing.T) {
	a, d := asker(), impl.DualOf(asker())
	one, open := machine(1), impl.Machine{States: 1, Ends: []bool{false}}
	s0, s01 := machine(1, sends(0, 0, 0)), machine(1, sends(0, 0, 0), sends(0, 1, 0))
	r0, r1, r01 := machine(1, receives(0, 0, 0)), machine(1, receives(0, 1, 0)), machine(1, receives(0, 1, 0), receives(0, 0, 0))
	all, partner := everyPair()
	cases := []struct {
		name string
		a, b impl.Machine
		x, y int
		want int
	}{
		{"at once, where both have Ends", one, one, 0, 0, impl.PrFine},
		{"at once, where one has Ends", one, open, 0, 0, impl.PrStuck},
		{"at once, where none has Ends", open, open, 0, 0, impl.PrStuck},
		{"at the first pair", a, d, 0, 0, impl.PrFine},
		{"at a pair without Ends that goes on", a, d, 1, 1, impl.PrFine},
		{"at the end", a, d, 2, 2, impl.PrFine},
		{"both send", a, d, 0, 1, impl.PrUnread},
		{"both receive", a, d, 1, 0, impl.PrStuck},
		{"one sends, the other one has no moves but Ends", a, d, 0, 2, impl.PrUnread},
		{"one receives, the other one has no moves", a, d, 1, 2, impl.PrStuck},
		{"both send the same, both have Ends", s0, s0, 0, 0, impl.PrUnread},
		{"both receive, both have Ends", r0, r01, 0, 0, impl.PrFine},
		{"both receive, one has Ends", r0, withEnds(r0, false), 0, 0, impl.PrStuck},
		{"both receive, none has Ends", withEnds(r0, false), withEnds(r1, false), 0, 0, impl.PrStuck},
		{"one receives, and both have Ends", r0, one, 0, 0, impl.PrFine},
		{"one receives, and has no Ends", withEnds(r0, false), one, 0, 0, impl.PrStuck},
		{"one receives, and the other one has no Ends", r0, open, 0, 0, impl.PrStuck},
		{"what is sent is received", s0, r0, 0, 0, impl.PrFine},
		{"what is sent is received, none has Ends", withEnds(s0, false), withEnds(r0, false), 0, 0, impl.PrFine},
		{"more is received than sent", s0, r01, 0, 0, impl.PrFine},
		{"less is received than sent", s01, r0, 0, 0, impl.PrUnread},
		{"less is received than sent, the first message not", s01, r1, 0, 0, impl.PrUnread},
		{"another message is received", s0, r1, 0, 0, impl.PrUnread},
		{"unread and stuck at once", withEnds(s0, false), withEnds(r1, false), 0, 0, impl.PrUnread},
		{"unread and stuck at once, without moves of one", s0, open, 0, 0, impl.PrUnread},
		{"unread, both have Ends", s0, one, 0, 0, impl.PrUnread},
		{"received in another state", s0, machine(2, receives(1, 0, 0)), 0, 0, impl.PrUnread},
		{"received in that state", s0, machine(2, receives(1, 0, 0)), 0, 1, impl.PrFine},
		{"MaxStates states and MaxMoves moves", all, partner, 5, 5, impl.PrFine},
		{"no states at all", all, partner, 6, 6, impl.PrStuck},
		{"the states -1", a, d, -1, -1, impl.PrStuck},
		{"the state -1 of one", a, d, -1, 2, impl.PrStuck},
		{"the state States", a, d, 3, 2, impl.PrStuck},
		{"the state States, where the other one sends", a, d, 0, 3, impl.PrUnread},
		{"the least int", a, d, 2, math.MinInt, impl.PrStuck},
		{"the greatest int", a, d, 2, math.MaxInt, impl.PrStuck},
		{"both, the least and the greatest int", a, d, math.MinInt, math.MaxInt, impl.PrStuck},
		{"the least int, where the other one sends", a, d, 0, math.MinInt, impl.PrUnread},
		{"2 modulo 2^32", a, d, 2 + 1<<32, 2, impl.PrStuck},
		{"the zero values", impl.Machine{}, impl.Machine{}, 0, 0, impl.PrStuck},
	}
	for _, c := range cases {
		checkTrouble(t, c.name, c.a, c.b, c.x, c.y, c.want)
		if got := troubleOf(c.a, c.b, c.x, c.y); got != c.want {
			t.Errorf("%s: the test's own answer is %d", c.name, got)
		}
		checkTwo(t, c.name, c.a, c.b, stateLimits())
	}
}

// Trouble is asked of machines that are not valid too.
func TestTroubleOfNoMachines(t *testing.T) {
	one := machine(1)
	turns := machine(1, sends(0, 0, 0), receives(0, 1, 0))
	several := machine(1, sends(0, 1, 0), sends(0, 1, 7))
	far := machine(1, sends(-1, 9, 0), receives(math.MaxInt, 9, 0))
	cases := []struct {
		name string
		a, b impl.Machine
		x, y int
		want int
	}{
		{"more Ends than States", withEnds(one, false, true), one, 1, 0, impl.PrFine},
		{"more Ends than States, not set", withEnds(one, true, false), one, 1, 0, impl.PrStuck},
		{"the state behind them", withEnds(one, true, true), one, 2, 0, impl.PrStuck},
		{"more Ends than MaxStates", withEnds(one, slices.Repeat([]bool{true}, 9)...), one, 8, 0, impl.PrFine},
		{"Ends without States", impl.Machine{Ends: []bool{true}}, one, 0, 0, impl.PrFine},
		{"Ends and States below 0", impl.Machine{States: math.MinInt, Ends: []bool{true}}, one, 0, 0, impl.PrFine},
		{"fewer Ends than States", withEnds(machine(3), true, true), one, 2, 0, impl.PrStuck},
		{"fewer Ends than States, the last one", withEnds(machine(3), true, true), one, 1, 0, impl.PrFine},
		{"no Ends", withEnds(machine(3)), one, 0, 0, impl.PrStuck},
		{"States alone", impl.Machine{States: math.MaxInt}, impl.Machine{States: math.MaxInt}, 7, 7, impl.PrStuck},
		{"Ends in the spare capacity", withEnds(machine(2), []bool{true, true}[:1]...), one, 1, 0, impl.PrStuck},
		{"the state -1 with Ends", withEnds(one, true, true), one, -1, 0, impl.PrStuck},
		{"both turns in one state", turns, impl.DualOf(turns), 0, 0, impl.PrFine},
		{"both turns, what the first one sends is not received", turns, machine(1, sends(0, 1, 0)), 0, 0, impl.PrUnread},
		{"both turns, what the other one sends is not received", turns, machine(1, sends(0, 2, 0), receives(0, 0, 0)), 0, 0, impl.PrUnread},
		{"both turns, and the other one receives alone", turns, machine(1, receives(0, 0, 0)), 0, 0, impl.PrFine},
		{"the same move twice", several, machine(1, receives(0, 1, 0)), 0, 0, impl.PrFine},
		{"the same move twice, not received", several, machine(1, receives(0, 0, 0)), 0, 0, impl.PrUnread},
		{"the same move twice, received", withEnds(machine(1, sends(0, 1, 0)), false), impl.DualOf(several), 0, 0, impl.PrFine},
		{"moves of states that do not exist", far, far, -1, math.MaxInt, impl.PrFine},
		{"one of them alone", far, far, -1, 0, impl.PrUnread},
		{"one of them alone, receiving", far, far, 0, math.MaxInt, impl.PrStuck},
		{"messages beyond all limits", machine(1, sends(0, math.MinInt, 0)), machine(1, receives(0, math.MaxInt, 0)), 0, 0, impl.PrUnread},
		{"the same message beyond all limits", withEnds(machine(1, sends(0, math.MinInt, 0)), false), machine(1, receives(0, math.MinInt, 0)), 0, 0, impl.PrFine},
	}
	for _, c := range cases {
		checkTrouble(t, c.name, c.a, c.b, c.x, c.y, c.want)
		if got := troubleOf(c.a, c.b, c.x, c.y); got != c.want {
			t.Errorf("%s: the test's own answer is %d", c.name, got)
		}
		checkTwo(t, c.name, c.a, c.b, stateLimits())
	}
}

// pairCase is what a test says of two machines: the pairs in order, and the first trouble.
type pairCase struct {
	name  string
	a, b  impl.Machine
	pairs [][]int
	first []int
}

func pairCases() []pairCase {
	a, d := asker(), impl.DualOf(asker())
	one, open := machine(1), impl.Machine{States: 1, Ends: []bool{false}}
	late := machine(6, sends(0, 0, 0), sends(4, 0, 5))
	wide := spread()
	deep := impl.Machine{States: 6, Ends: []bool{false, false, false, false, true, true}, Moves: wide.Moves}
	all, partner := everyPair()
	circle := machine(2, sends(0, 0, 1), receives(1, 0, 0))
	three := withEnds(machine(3, receives(0, 0, 1), sends(1, 0, 2), receives(2, 0, 0)), make([]bool, 3)...)
	return []pairCase{
		{"the asker and its dual", a, d, couples(0, 0, 1, 1, 2, 2), nil},
		{"at once, where both have Ends", one, one, couples(0, 0), nil},
		{"at once, where the first one has Ends", one, open, couples(0, 0), bytesOf(0, 0)},
		{"at once, where the other one has Ends", open, one, couples(0, 0), bytesOf(0, 0)},
		{"at once, where none has Ends", open, open, couples(0, 0), bytesOf(0, 0)},
		{"at once, with moves of other states", withEnds(machine(2, sends(1, 0, 0)), true, false), one, couples(0, 0), nil},
		{"unread at the first pair", a, without(d, 0), couples(0, 0), bytesOf(0, 0)},
		{"stuck at the first pair", without(a, 0), d, couples(0, 0), bytesOf(0, 0)},
		{"unread behind another pair", without(a, 2), d, couples(0, 0, 1, 1, 2, 2), bytesOf(1, 1)},
		{"stuck behind another pair", a, machine(3, receives(0, 0, 1)), couples(0, 0, 1, 1), bytesOf(1, 1)},
		{"stuck at the last pair", a, withEnds(d, true, true, false), couples(0, 0, 1, 1, 2, 2), bytesOf(2, 2)},
		{"less is sent than received", a, without(d, 2), couples(0, 0, 1, 1, 2, 2), nil},
		{"less is sent than received, and the end is not reached", a, without(d, 1), couples(0, 0, 1, 1), nil},
		{"a machine and itself", a, a, couples(0, 0), bytesOf(0, 0)},
		{"a dual and itself", d, d, couples(0, 0), bytesOf(0, 0)},
		{"unread and stuck at once", without(a, 1), machine(1, receives(0, 1, 0)), couples(0, 0), bytesOf(0, 0)},
		{"nothing but a loop, without Ends", withEnds(machine(1, sends(0, 5, 0)), false), withEnds(machine(1, receives(0, 5, 0)), false), couples(0, 0), nil},
		{"nothing but a circle", circle, impl.DualOf(circle), couples(0, 0, 1, 1), nil},
		{"trouble that is not reached", late, machine(1, receives(0, 0, 0)), couples(0, 0), nil},
		{"pairs as they are found, not as deep as they are", wide, impl.DualOf(wide), couples(0, 0, 1, 1, 2, 2, 3, 3, 4, 4, 5, 5), bytesOf(3, 3)},
		{"the first one that is found, not the deepest", deep, impl.DualOf(deep), couples(0, 0, 1, 1, 2, 2, 3, 3, 4, 4, 5, 5), bytesOf(3, 3)},
		{"every pair", all, partner, couples(
			0, 0, 1, 0, 0, 1, 2, 0, 1, 1, 0, 2, 3, 0, 2, 1, 1, 2, 0, 3, 4, 0, 3, 1, 2, 2, 1, 3, 0, 4,
			5, 0, 4, 1, 3, 2, 2, 3, 1, 4, 0, 5, 5, 1, 4, 2, 3, 3, 2, 4, 1, 5,
			5, 2, 4, 3, 3, 4, 2, 5, 5, 3, 4, 4, 3, 5, 5, 4, 4, 5, 5, 5), nil},
		{"two circles of other lengths", circle, three, couples(0, 0, 1, 1, 0, 2, 1, 0), bytesOf(1, 0)},
		{"several messages to the same pair", machine(2, sends(0, 1, 1), sends(0, 0, 1)), machine(2, receives(0, 0, 1), receives(0, 1, 1)), couples(0, 0, 1, 1), nil},
		{"one state of one with several of the other one", machine(1, sends(0, 0, 0)), withEnds(machine(3, receives(0, 0, 2), receives(1, 0, 0), receives(2, 0, 1)), make([]bool, 3)...), couples(0, 0, 0, 2, 0, 1), nil},
		{"unread behind a message that is not the first", machine(3, sends(0, 0, 0), sends(0, 5, 2), sends(2, 3, 1)), machine(3, receives(0, 0, 0), receives(0, 5, 2), receives(2, 4, 1)), couples(0, 0, 2, 2), bytesOf(2, 2)},
	}
}

func TestPairsOf(t *testing.T) {
	for _, c := range pairCases() {
		checkReached(t, c.name, c.a, c.b, c.pairs)
		checkReached(t, c.name, c.b, c.a, turnedPairs(c.pairs))
		if got := reachedOf(c.a, c.b); !samePairs(got, c.pairs) {
			t.Errorf("%s: the test's own answer is %v", c.name, got)
		}
		checkTwo(t, c.name, c.a, c.b, bytesOf(-1, 0, 1, 2, 3, 4, 5, 6))
	}
}

func TestFirstTrouble(t *testing.T) {
	for _, c := range pairCases() {
		checkFirst(t, c.name, c.a, c.b, c.first)
		checkSafe(t, c.name, c.a, c.b, len(c.first) == 0)
		if got := firstTroubleOf(c.a, c.b); !slices.Equal(got, c.first) {
			t.Errorf("%s: the test's own answer is %v", c.name, got)
		}
	}
}

// reachedStates returns the states that a machine can come to, in no order.
func reachedStates(x impl.Machine) map[int]bool {
	states := map[int]bool{0: true}
	for range x.Moves {
		for _, m := range x.Moves {
			if states[m.From] {
				states[m.To] = true
			}
		}
	}
	return states
}

// checkWithDual is the promise: a machine and its dual are always in the same state, and
// nothing that is sent is left unread. Where a state has neither moves nor Ends, and
// nowhere else, they are stuck.
func checkWithDual(t *testing.T, name string, x impl.Machine) {
	t.Helper()
	d := impl.DualOf(x)
	checkTwo(t, name, x, d, bytesOf(0, x.States-1))
	pairs, states := impl.PairsOf(x, d), reachedStates(x)
	if len(pairs) != len(states) {
		t.Errorf("%s: PairsOf(%s) is %v, and the states are %v", name, pairText(x, d), pairs, states)
	}
	var first []int
	for _, p := range pairs {
		if p[0] != p[1] || !states[p[0]] {
			t.Errorf("%s: PairsOf(%s) is %v", name, pairText(x, d), pairs)
		}
		hasMoves := slices.ContainsFunc(x.Moves, func(m impl.Move) bool { return m.From == p[0] })
		want := impl.PrFine
		if !hasMoves && !x.Ends[p[0]] {
			want = impl.PrStuck
		}
		checkTrouble(t, name, x, d, p[0], p[1], want)
		if first == nil && want == impl.PrStuck {
			first = p
		}
	}
	checkFirst(t, name, x, d, first)
	checkSafe(t, name, x, d, first == nil)
}

func TestMachinesWithTheirDuals(t *testing.T) {
	safe := 0
	machines := someMachines()
	for seed := range 2000 {
		machines = append(machines, machineByChance(seed))
	}
	a, b := everyPair()
	for _, x := range append(machines, a, b, spread()) {
		checkWithDual(t, "with its dual", x)
		checkWithDual(t, "with its dual", impl.DualOf(x))
		stopping := withEnds(x, slices.Repeat([]bool{true}, x.States)...)
		checkWithDual(t, "with its dual and all Ends", stopping)
		checkSafe(t, "with its dual and all Ends", stopping, impl.DualOf(stopping), true)
		checkWithDual(t, "with its dual and no Ends", withEnds(x, make([]bool, x.States)...))
		if impl.IsSafe(x, impl.DualOf(x)) {
			safe++
		}
	}
	if safe < 200 || safe > 1900 {
		t.Errorf("%d machines are safe with their duals", safe)
	}
}

// Also where a machine is not valid, no state leaves a message of the same state unread.
func TestDualsLeaveNothingUnread(t *testing.T) {
	for _, x := range slices.Concat(someMachines(), noMachines()) {
		d := impl.DualOf(x)
		for _, state := range append(stateLimits(), 4, 8) {
			if got := impl.TroubleAt(x, d, state, state); got == impl.PrUnread {
				t.Errorf("TroubleAt(%s, %d, %d) is %d", pairText(x, d), state, state, got)
			}
			if len(x.Ends) <= state || state < 0 {
				continue
			}
			fine := x.Ends[state] || len(impl.NextPairs(x, d, state, state)) > 0
			if got := impl.TroubleAt(x, d, state, state); fine != (got == impl.PrFine) {
				t.Errorf("TroubleAt(%s, %d, %d) is %d", pairText(x, d), state, state, got)
			}
		}
	}
}

// nearDual is the dual of a machine with a few changes, so that the two come some way
// together. It is valid.
func nearDual(x impl.Machine, seed int) impl.Machine {
	pick := chance(seed)
	d := dualOf(x)
	for range pick.IntN(4) {
		y := dualOf(dualOf(d))
		if len(y.Moves) == 0 {
			break
		}
		i := pick.IntN(len(y.Moves))
		switch pick.IntN(6) {
		case 0:
			y.Moves = slices.Delete(y.Moves, i, i+1)
		case 1:
			y.Moves[i].To = pick.IntN(y.States)
		case 2:
			y.Moves[i].Msg = pick.IntN(6)
		case 3:
			y.Ends[pick.IntN(y.States)] = true
		case 4:
			other := y.Moves[i]
			other.Msg, other.To = pick.IntN(6), pick.IntN(y.States)
			y.Moves = append(y.Moves, other)
		case 5:
			pick.Shuffle(len(y.Moves), func(i int, k int) { y.Moves[i], y.Moves[k] = y.Moves[k], y.Moves[i] })
		}
		if isMachineOf(y) {
			d = y
		}
	}
	return d
}

// streamByChance has a move for two messages in each of MaxStates states, so that it
// comes to many pairs with a stream of the other turn; sometimes a few moves are missing.
func streamByChance(seed int, send bool) impl.Machine {
	pick := chance(seed)
	x := impl.Machine{States: 6}
	for k := range 12 {
		x.Moves = append(x.Moves, impl.Move{From: k / 2, Send: send, Msg: 4 + k%2, To: pick.IntN(6)})
	}
	for range 6 {
		x.Ends = append(x.Ends, pick.IntN(2) == 0)
	}
	pick.Shuffle(12, func(i int, k int) { x.Moves[i], x.Moves[k] = x.Moves[k], x.Moves[i] })
	x.Moves = x.Moves[:12-pick.IntN(3)]
	return x
}

func TestPairsByChance(t *testing.T) {
	var kinds [5]int
	apart, many := 0, 0
	for seed := range 6000 {
		a := machineByChance(seed)
		b := nearDual(a, seed)
		switch seed % 5 {
		case 0:
			b = machineByChance(seed + 100000)
		case 1:
			a, b = streamByChance(seed, true), streamByChance(seed+100000, false)
		}
		checkTwo(t, "by chance", a, b, bytesOf(0, seed%7-1))
		first := impl.FirstTrouble(a, b)
		if len(first) == 0 {
			kinds[0]++
		} else {
			behind := 0
			if !slices.Equal(first, bytesOf(0, 0)) {
				behind = 2
			}
			kinds[impl.TroubleAt(a, b, first[0], first[1])+behind]++
		}
		pairs := impl.PairsOf(a, b)
		if slices.ContainsFunc(pairs, func(p []int) bool { return p[0] != p[1] }) {
			apart++
		}
		if len(pairs) > 12 {
			many++
		}
	}
	if slices.Min(kinds[:]) < 200 || apart < 500 || many < 500 {
		t.Errorf("safe, unread and stuck at once, unread and stuck behind are %v; %d come apart, %d have many pairs", kinds, apart, many)
	}
}

// Where one machine makes the moves of a word and the other one those of the turned word,
// they come to one of the pairs. If they are safe, the other one has each move that
// receives what the word sends.
func TestWordsComeToPairs(t *testing.T) {
	lost := 0
	for seed := range 1500 {
		a := machineByChance(seed)
		b := nearDual(a, seed)
		pairs, word := impl.PairsOf(a, b), wordByChance(a, seed, 12)
		for size := range len(word) + 1 {
			p := bytesOf(impl.RunMachine(a, word[:size]), impl.RunMachine(b, turned(word[:size])))
			if p[1] < 0 {
				lost++
				if word[size-1] >= 0 && impl.IsSafe(a, b) {
					t.Errorf("%s are safe, but the last message of %v is not received", pairText(a, b), word[:size])
				}
				break
			}
			if !slices.ContainsFunc(pairs, func(q []int) bool { return slices.Equal(p, q) }) {
				t.Errorf("PairsOf(%s) is %v, without %v", pairText(a, b), pairs, p)
			}
		}
	}
	if lost < 100 {
		t.Errorf("only %d words cannot be turned to the end", lost)
	}
}

// shortMachines returns machines of two states: with up to one move of a few and all
// Ends, and with up to two moves of them and Ends in turn.
func shortMachines() (few []impl.Machine, more []impl.Machine) {
	var alphabet []impl.Move
	for _, from := range bytesOf(0, 1) {
		for _, msg := range bytesOf(0, 5) {
			for _, to := range bytesOf(0, 1) {
				alphabet = append(alphabet, sends(from, msg, to), receives(from, msg, to))
			}
		}
	}
	ends := [][]bool{{false, false}, {true, false}, {false, true}, {true, true}}
	places := make([]int, len(alphabet))
	for i := range places {
		places[i] = i
	}
	eachList(places, 2, func(chosen []int) {
		x := machine(2)
		for _, i := range chosen {
			x.Moves = append(x.Moves, alphabet[i])
		}
		if !isMachineOf(x) {
			return
		}
		more = append(more, withEnds(x, ends[len(more)%4]...))
		for _, l := range ends {
			if len(chosen) < 2 {
				few = append(few, withEnds(x, l...))
			}
		}
	})
	return few, more
}

// Every two machines of two states with up to two moves of a few, so that each kind of
// trouble is at each kind of pair.
func TestEveryTwoShortMachines(t *testing.T) {
	few, more := shortMachines()
	if len(few) != 4*(1+16) || len(more) != 1+16+16*(2+8) {
		t.Errorf("there are %d and %d machines", len(few), len(more))
	}
	for i, a := range few {
		for _, b := range few[i:] {
			checkTwo(t, "few moves", a, b, bytesOf(0, 1, 2))
		}
	}
	for i, a := range more {
		for _, b := range more[i:] {
			checkTwo(t, "more moves", a, b, bytesOf(0))
		}
	}
}

func TestPairsOfNoMachines(t *testing.T) {
	valid, invalid := someMachines(), noMachines()
	for i, x := range invalid {
		partners := append(slices.Clone(invalid[i%7:i%7+8]), valid[i%len(valid)], impl.DualOf(x), x, asker(), impl.DualOf(asker()), machine(1))
		for _, y := range partners {
			checkReached(t, "no machine", x, y, nil)
			checkReached(t, "no machine", y, x, nil)
			checkFirst(t, "no machine", x, y, nil)
			checkFirst(t, "no machine", y, x, nil)
			checkSafe(t, "no machine", x, y, false)
			checkTwo(t, "no machine", x, y, bytesOf(-1, 0, 1, math.MaxInt))
		}
	}
	// One fault takes the pairs away that are there without it.
	for _, x := range valid {
		d := impl.DualOf(x)
		if len(impl.PairsOf(x, d)) == 0 {
			t.Errorf("PairsOf(%s) is empty", pairText(x, d))
		}
		eachSpoiled(x, func(name string, spoiled impl.Machine) {
			checkTwo(t, name, spoiled, d, bytesOf(0))
			checkReached(t, name, spoiled, d, nil)
			checkReached(t, name, d, spoiled, nil)
			checkSafe(t, name, spoiled, d, false)
		})
	}
}

// Any int in every place of both machines.
func TestPairsWithAnyIntEverywhere(t *testing.T) {
	eachWithAnyInt(func(x impl.Machine, changed impl.Machine, n int) {
		checkTwo(t, "any int in one", changed, dualOf(x), bytesOf(0, 1, n))
		checkTwo(t, "any int in both", changed, dualOf(changed), bytesOf(0, 1, n))
		checkTwo(t, "any int as state", x, dualOf(x), bytesOf(0, n))
	})
}

func TestPairsOfManyMoves(t *testing.T) {
	const many = 100000
	var rising, falling, upwards [][]int
	var sending, receiving, more []impl.Move
	for i := range many {
		sending, receiving = append(sending, sends(0, many-i, i)), append(receiving, receives(0, i, -i))
		more = append(more, receives(0, i+1, i))
		if i > 0 {
			rising, falling = append(rising, bytesOf(many-i, -i)), append(falling, bytesOf(-i, many-i))
		}
		upwards = append(upwards, bytesOf(many-1-i, i))
	}
	a, b := machine(1, sending...), machine(1, receiving...)
	checkNext(t, "many", a, b, 0, 0, rising)
	checkNext(t, "many", b, a, 0, 0, falling)
	checkTrouble(t, "many, one not received", a, b, 0, 0, impl.PrUnread)
	checkNext(t, "many", a, machine(1, more...), 0, 0, upwards)
	checkTrouble(t, "many", a, machine(1, more...), 0, 0, impl.PrFine)
	checkTrouble(t, "many of another state", a, machine(1, more...), 1, 1, impl.PrStuck)
	same := machine(1, slices.Repeat([]impl.Move{sends(0, 0, 1)}, many)...)
	checkNext(t, "the same many times", same, impl.DualOf(same), 0, 0, couples(1, 1))
	checkTrouble(t, "the same many times", same, impl.DualOf(same), 0, 0, impl.PrFine)
	for _, x := range []impl.Machine{a, b, same, {States: many, Ends: make([]bool, many)}} {
		checkReached(t, "many", x, impl.DualOf(x), nil)
		checkFirst(t, "many", x, impl.DualOf(x), nil)
		checkSafe(t, "many", x, impl.DualOf(x), false)
	}
	ends := slices.Repeat([]bool{true}, many)
	checkTrouble(t, "many Ends", withEnds(machine(1), ends...), withEnds(machine(1), ends...), many-1, 0, impl.PrFine)
	checkTrouble(t, "many Ends", withEnds(machine(1), ends...), withEnds(machine(1), ends...), many, 0, impl.PrStuck)
}

// somePairs returns machines two by two: some get on, some do not, some are not valid.
func somePairs() [][2]impl.Machine {
	var l [][2]impl.Machine
	for _, c := range pairCases() {
		l = append(l, [2]impl.Machine{c.a, c.b})
	}
	for i, x := range slices.Concat(someMachines(), noMachines()) {
		l = append(l, [2]impl.Machine{x, impl.DualOf(x)}, [2]impl.Machine{x, someMachines()[i%len(someMachines())]})
	}
	both := impl.Machine{Ends: []bool{true}, Moves: []impl.Move{sends(0, 1, 3), receives(0, 1, 2), sends(0, 2, 3)}}
	return append(l, [2]impl.Machine{both, both}, [2]impl.Machine{})
}

func TestPairsKeepArguments(t *testing.T) {
	for _, two := range somePairs() {
		a, b := markedMachine(two[0]), markedMachine(two[1])
		before, otherBefore := memoryOfMachine(a), memoryOfMachine(b)
		impl.PairsOf(a, b)
		impl.PairsOf(a, a)
		impl.IsSafe(a, b)
		impl.FirstTrouble(a, b)
		for _, x := range stateLimits() {
			for _, y := range stateLimits() {
				impl.NextPairs(a, b, x, y)
				impl.TroubleAt(a, b, x, y)
			}
		}
		if memoryOfMachine(a) != before || memoryOfMachine(b) != otherBefore {
			t.Errorf("the arguments are changed to %s, %s", memoryOfMachine(a), memoryOfMachine(b))
		}
	}
}

// allPairs are the lists that the program returns for two machines.
func allPairs(a impl.Machine, b impl.Machine) [][][]int {
	l := [][][]int{impl.PairsOf(a, b), {impl.FirstTrouble(a, b)}}
	for _, x := range bytesOf(-1, 0, 1, 2, 5) {
		l = append(l, impl.NextPairs(a, b, x, x))
	}
	return l
}

func TestPairsShareNoMemory(t *testing.T) {
	for _, two := range somePairs() {
		a, b := markedMachine(two[0]), markedMachine(two[1])
		before := memoryOfMachine(a) + memoryOfMachine(b)
		want := fmt.Sprint(allPairs(a, b))
		var pairs [][]int
		var lists [][][]int
		for range 2 {
			for _, l := range allPairs(a, b) {
				pairs = append(pairs, l...)
			}
			lists = append(lists, allPairs(a, b)...)
		}
		for i := range pairs {
			pairs[i] = whole(pairs[i])
		}
		for i := range lists {
			lists[i] = whole(lists[i])
		}
		checkApart(t, pairText(a, b), pairs)
		checkAllApart(t, pairText(a, b), lists, func(p *[]int) { *p = bytesOf(777) })
		if got := fmt.Sprint(allPairs(a, b)); got != want {
			t.Errorf("of %s, the lists are %s, not %s, after others were changed", pairText(a, b), got, want)
		}
		if memoryOfMachine(a)+memoryOfMachine(b) != before {
			t.Errorf("a list writes into %s", pairText(a, b))
		}
	}
}

// The lists stay as they are when the machines are changed later.
func TestPairsAreNotOfTheMachines(t *testing.T) {
	for _, two := range somePairs() {
		a, b := markedMachine(two[0]), markedMachine(two[1])
		l := allPairs(a, b)
		before := fmt.Sprint(l)
		for _, x := range []impl.Machine{a, b} {
			clear(whole(x.Ends))
			clear(whole(x.Moves))
		}
		if got := fmt.Sprint(l); got != before {
			t.Errorf("the lists are %s, not %s, after the machines were changed", got, before)
		}
	}
}
