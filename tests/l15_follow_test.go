package tests

import (
	"fmt"
	"maps"
	"math"
	"math/rand/v2"
	"slices"
	"testing"

	"loop.example/g03000/impl"
)

// Promise 15: successors are safe where their predecessors are (chapter 15).

func hasMoves(x impl.Machine, state int, send bool) bool {
	return slices.ContainsFunc(x.Moves, func(m impl.Move) bool { return m.From == state && m.Send == send })
}

// lacks reports whether b has a message there that a does not have.
func lacks(a impl.Machine, b impl.Machine, x int, y int, send bool) bool {
	return slices.ContainsFunc(b.Moves, func(m impl.Move) bool {
		return m.From == y && m.Send == send && moveOf(a, x, send, m.Msg) < 0
	})
}

// endsThere counts Ends for the states that exist alone.
func endsThere(x impl.Machine, state int) bool {
	for i, end := range x.Ends {
		if i == state && i < x.States {
			return end
		}
	}
	return false
}

// The conditions of the chapter, each by what breaks it.
const (
	receivesLess = iota
	sendsMore
	sendsNothing
	sendsSomething
	receivesSomething
	hasNoEnds
	conditions
)

// brokenAt says of each condition whether it is broken.
func brokenAt(newer impl.Machine, older impl.Machine, x int, y int) [conditions]bool {
	return [conditions]bool{
		receivesLess:      lacks(newer, older, x, y, false),
		sendsMore:         lacks(older, newer, y, x, true),
		sendsNothing:      hasMoves(older, y, true) && !hasMoves(newer, x, true),
		sendsSomething:    !hasMoves(older, y, true) && hasMoves(newer, x, true),
		receivesSomething: !hasMoves(older, y, false) && hasMoves(newer, x, false),
		hasNoEnds:         endsThere(older, y) && !endsThere(newer, x),
	}
}

func followsAtOf(newer impl.Machine, older impl.Machine, x int, y int) bool {
	return brokenAt(newer, older, x, y) == [conditions]bool{}
}

func followPairsOf(newer impl.Machine, older impl.Machine) [][]int {
	return levelsOf(newer, older, true)
}

// firstFaultOf returns an empty list where there is none.
func firstFaultOf(newer impl.Machine, older impl.Machine) []int {
	for _, p := range followPairsOf(newer, older) {
		if !followsAtOf(newer, older, p[0], p[1]) {
			return p
		}
	}
	return []int{}
}

func followsOf(newer impl.Machine, older impl.Machine) bool {
	return isMachineOf(newer) && isMachineOf(older) && len(firstFaultOf(newer, older)) == 0
}

func chainOf(l ...impl.Machine) []impl.Machine {
	return l
}

// chainFollowsOf goes from the newest machine to the oldest one.
func chainFollowsOf(l []impl.Machine) bool {
	switch len(l) {
	case 0:
		return false
	case 1:
		return isMachineOf(l[0])
	}
	newest := len(l) - 1
	return followsOf(l[newest], l[newest-1]) && chainFollowsOf(l[:newest])
}

func checkFollowsAt(t *testing.T, name string, newer impl.Machine, older impl.Machine, x int, y int, want bool) {
	t.Helper()
	if got := impl.FollowsAt(newer, older, x, y); got != want {
		t.Errorf("%s: FollowsAt(%s, %d, %d) is %v", name, pairText(newer, older), x, y, got)
	}
}

// checkFollowPairs asks from the other side as well: both make the same moves.
func checkFollowPairs(t *testing.T, name string, newer impl.Machine, older impl.Machine, want [][]int) {
	t.Helper()
	if got := impl.FollowPairs(newer, older); !samePairs(got, want) {
		t.Errorf("%s: FollowPairs(%s) is %v, not %v", name, pairText(newer, older), got, want)
	}
	if got := impl.FollowPairs(older, newer); !samePairs(got, turnedPairs(want)) {
		t.Errorf("%s: FollowPairs(%s) is %v, not %v", name, pairText(older, newer), got, turnedPairs(want))
	}
}

// checkFollows asks for the shortest chains too.
func checkFollows(t *testing.T, name string, newer impl.Machine, older impl.Machine, want bool) {
	t.Helper()
	if got := impl.Follows(newer, older); got != want {
		t.Errorf("%s: Follows(%s) is %v", name, pairText(newer, older), got)
	}
	checkChain(t, name, chainOf(older, newer), want)
	checkChain(t, name, chainOf(older, newer, newer), want)
	checkChain(t, name, chainOf(older, older, newer), want)
}

func checkChain(t *testing.T, name string, l []impl.Machine, want bool) {
	t.Helper()
	if got := impl.ChainFollows(l); got != want {
		t.Errorf("%s: ChainFollows of %d machines, %.600s, is %v", name, len(l), fmt.Sprint(l), got)
	}
}

// checkSuccession holds all that the program says of two machines against what the test
// works out, with each of them as the newer one.
func checkSuccession(t *testing.T, name string, a impl.Machine, b impl.Machine, states []int) {
	t.Helper()
	for _, x := range states {
		for _, y := range states {
			checkFollowsAt(t, name, a, b, x, y, followsAtOf(a, b, x, y))
			checkFollowsAt(t, name, b, a, y, x, followsAtOf(b, a, y, x))
		}
	}
	checkFollowPairs(t, name, a, b, followPairsOf(a, b))
	checkFollows(t, name, a, b, followsOf(a, b))
	checkFollows(t, name, b, a, followsOf(b, a))
	checkFollowed(t, name, a, b)
	checkFollowed(t, name, b, a)
}

// checkFollowed holds Follows and the pairs against the program's own answers.
func checkFollowed(t *testing.T, name string, newer impl.Machine, older impl.Machine) {
	t.Helper()
	pairs := impl.FollowPairs(newer, older)
	checkFound(t, name+": FollowPairs", newer, older, pairs, func(x int, y int) [][]int {
		var next [][]int
		add := func(messages []int, send bool) {
			for _, msg := range messages {
				i, k := impl.MoveOf(newer, x, send, msg), impl.MoveOf(older, y, send, msg)
				if i >= 0 && k >= 0 {
					next = append(next, bytesOf(newer.Moves[i].To, older.Moves[k].To))
				}
			}
		}
		add(impl.MovesFrom(newer, x, true), true)
		add(impl.MovesFrom(older, y, false), false)
		return next
	})
	faulty := slices.ContainsFunc(pairs, func(p []int) bool { return !impl.FollowsAt(newer, older, p[0], p[1]) })
	checkFollows(t, name, newer, older, len(pairs) > 0 && !faulty)
}

// checkPromise asks of a newer machine that follows an older one whether it is safe with a
// peer wherever the older one is. It reports whether the older one is.
func checkPromise(t *testing.T, name string, newer impl.Machine, older impl.Machine, peer impl.Machine) bool {
	t.Helper()
	if !impl.IsSafe(older, peer) {
		return false
	}
	if !impl.IsSafe(newer, peer) || !impl.IsSafe(peer, newer) {
		t.Errorf("%s: %s is safe with %s, and its successor %s is not", name, machineText(older), machineText(peer), machineText(newer))
	}
	return true
}

func withMoves(x impl.Machine, moves ...impl.Move) impl.Machine {
	return impl.Machine{States: x.States, Ends: x.Ends, Moves: append(slices.Clone(x.Moves), moves...)}
}

// streams are two machines that send the same two messages: of each one, a message leads
// on where the other machine stays. Together they come to every pair of states.
func streams() (impl.Machine, impl.Machine) {
	a, partner := everyPair()
	return a, dualOf(partner)
}

// stateCase is what a test says of two machines in one state each.
type stateCase struct {
	name         string
	newer, older impl.Machine
	x, y         int
	want         bool
}

func checkStates(t *testing.T, cases []stateCase) {
	t.Helper()
	for _, c := range cases {
		checkFollowsAt(t, c.name, c.newer, c.older, c.x, c.y, c.want)
		if got := followsAtOf(c.newer, c.older, c.x, c.y); got != c.want {
			t.Errorf("%s: the test's own answer is %v", c.name, got)
		}
		checkSuccession(t, c.name, c.newer, c.older, stateLimits())
	}
}

func TestFollowsAt(t *testing.T) {
	a, d := asker(), dualOf(asker())
	one, open := machine(1), withEnds(machine(1), false)
	s0, s1, s01 := machine(1, sends(0, 0, 0)), machine(1, sends(0, 1, 0)), machine(1, sends(0, 0, 0), sends(0, 1, 0))
	r0, r1, r01 := dualOf(s0), dualOf(s1), dualOf(s01)
	falling := machine(1, sends(0, 1, 0), sends(0, 0, 0))
	full := greatest()
	ends := withEnds(machine(4), true, false, true, false)
	checkStates(t, []stateCase{
		{"the first state of a machine and itself", a, a, 0, 0, true},
		{"a state that receives", a, a, 1, 1, true},
		{"a state that neither sends nor receives", a, a, 2, 2, true},
		{"one that sends and one that receives", a, a, 0, 1, false},
		{"one that receives and one that sends", a, a, 1, 0, false},
		{"a machine and its dual", a, d, 0, 0, false},
		{"a machine and its dual, where both have no moves", a, d, 2, 2, true},
		{"it sends the same", s0, s0, 0, 0, true},
		{"it sends less but something", s0, s01, 0, 0, true},
		{"it sends less but something, the other message", s1, s01, 0, 0, true},
		{"it sends more", s01, s0, 0, 0, false},
		{"it sends more, a lower message", s01, s1, 0, 0, false},
		{"it sends another message", s1, s0, 0, 0, false},
		{"it sends nothing where the older one sends", one, s0, 0, 0, false},
		{"it sends nothing where the older one sends much", one, s01, 0, 0, false},
		{"it sends where the older one sends nothing", s0, one, 0, 0, false},
		{"both send nothing", one, one, 0, 0, true},
		{"it sends the same in another order", falling, s01, 0, 0, true},
		{"it receives the same", r0, r0, 0, 0, true},
		{"it receives more", r01, r0, 0, 0, true},
		{"it receives more, a lower message", r01, r1, 0, 0, true},
		{"it receives less", r0, r01, 0, 0, false},
		{"it receives less, not the lower message", r1, r01, 0, 0, false},
		{"it receives another message", r1, r0, 0, 0, false},
		{"it receives where the older one receives nothing", r0, one, 0, 0, false},
		{"it receives where the older one receives nothing and has no Ends", withEnds(r0, false), open, 0, 0, false},
		{"it receives nothing where the older one receives", one, r0, 0, 0, false},
		{"it receives the same in another order", dualOf(falling), r01, 0, 0, true},
		{"it receives what the older one sends", r0, s0, 0, 0, false},
		{"it sends what the older one receives", s0, r0, 0, 0, false},
		{"To does not count", machine(2, sends(0, 0, 1)), machine(2, sends(0, 0, 0)), 0, 0, true},
		{"both have Ends", one, one, 0, 0, true},
		{"no Ends where the older one has some", open, one, 0, 0, false},
		{"Ends where the older one has none", one, open, 0, 0, true},
		{"both have no Ends", open, open, 0, 0, true},
		{"no Ends where both send and the older one has some", withEnds(s0, false), s0, 0, 0, false},
		{"no Ends where both receive and the older one has some", withEnds(r01, false), r0, 0, 0, false},
		{"Ends where both send and the older one has none", s0, withEnds(s0, false), 0, 0, true},
		{"Ends of other states", ends, ends, 1, 3, true},
		{"Ends of other states, both set", ends, ends, 2, 0, true},
		{"Ends of other states, those of the older one", ends, ends, 3, 0, false},
		{"Ends of other states, those of the newer one", ends, ends, 2, 1, true},
		{"moves of another state", machine(2, sends(1, 0, 0)), s0, 1, 0, true},
		{"moves of another state alone", machine(2, sends(1, 0, 0)), s0, 0, 0, false},
		{"MaxStates states and MaxMoves moves", full, full, 5, 5, true},
		{"MaxStates states and MaxMoves moves, the same moves of another state", full, full, 1, 3, true},
		{"MaxStates states and MaxMoves moves, Ends of the older one alone", full, full, 1, 5, false},
		{"both without a state: -1", a, a, -1, -1, true},
		{"both without a state: States", a, a, 3, 3, true},
		{"both without a state: the least and the greatest int", a, a, math.MinInt, math.MaxInt, true},
		{"the newer one without a state, where the older one sends", a, a, -1, 0, false},
		{"the newer one without a state, where the older one receives", a, a, 3, 1, false},
		{"the newer one without a state, where the older one has Ends", a, a, -1, 2, false},
		{"the newer one at States, where the older one has Ends", a, a, 3, 2, false},
		{"the newer one at the least int, where the older one has Ends", a, a, math.MinInt, 2, false},
		{"the newer one at the greatest int, where the older one has Ends", a, a, math.MaxInt, 2, false},
		{"the newer one without a state, where the older one has no moves or Ends", a, open, math.MaxInt, 0, true},
		{"the older one without a state, where the newer one sends", a, a, 0, -1, false},
		{"the older one without a state, where the newer one receives", a, a, 1, 3, false},
		{"the older one without a state, where the newer one has Ends", a, a, 2, -1, true},
		{"the older one at States, where the newer one has Ends", a, a, 2, 3, true},
		{"the older one at the least int, where the newer one has Ends", a, a, 2, math.MinInt, true},
		{"the older one at the greatest int, where the newer one has no moves", open, a, 0, math.MaxInt, true},
		{"2 modulo 2^32", a, a, 2 + 1<<32, 2, false},
		{"2 modulo 2^32, the older one", a, a, 2, 2 + 1<<32, true},
		{"the zero values", impl.Machine{}, impl.Machine{}, 0, 0, true},
		{"the zero value and one with Ends", impl.Machine{}, one, 0, 0, false},
		{"one with Ends and the zero value", one, impl.Machine{}, 0, 0, true},
	})
}

// A state is asked of machines that are not valid too.
func TestFollowsAtOfNoMachines(t *testing.T) {
	one := machine(1)
	turns := machine(1, sends(0, 0, 0), receives(0, 1, 0))
	several := machine(1, sends(0, 1, 0), sends(0, 1, 7), receives(0, 2, 0), receives(0, 2, -1))
	single := machine(1, receives(0, 2, 3), sends(0, 1, 3))
	far := impl.Machine{States: 1, Moves: []impl.Move{sends(-1, 9, 0), receives(math.MaxInt, 9, 0), sends(1, math.MinInt, 0)}}
	wide := machine(1, sends(0, math.MinInt, 0), sends(0, math.MaxInt, 0), sends(0, -1, 0))
	checkStates(t, []stateCase{
		{"the same moves several times", several, single, 0, 0, true},
		{"the same moves several times, of the older one", single, several, 0, 0, true},
		{"the same moves several times, of both", several, several, 0, 0, true},
		{"the same move several times and another one", withMoves(several, sends(0, 0, 0)), several, 0, 0, false},
		{"both turns", turns, turns, 0, 0, true},
		{"both turns, and it receives more", withMoves(turns, receives(0, 0, 0)), turns, 0, 0, true},
		{"both turns, and it receives less", turns, withMoves(turns, receives(0, 5, 0)), 0, 0, false},
		{"both turns, and it sends less but something", turns, withMoves(turns, sends(0, 1, 0)), 0, 0, true},
		{"both turns, and it sends more", withMoves(turns, sends(0, 1, 0)), turns, 0, 0, false},
		{"both turns, and it sends nothing", without(turns, 0), turns, 0, 0, false},
		{"both turns, and it receives nothing", without(turns, 1), turns, 0, 0, false},
		{"both turns where the older one sends alone", turns, without(turns, 1), 0, 0, false},
		{"both turns where the older one receives alone", turns, without(turns, 0), 0, 0, false},
		{"both turns where the older one has no moves", turns, one, 0, 0, false},
		{"no moves where the older one has both turns", one, turns, 0, 0, false},
		{"both turns the other way round", dualOf(turns), turns, 0, 0, false},
		{"the same message in both turns", machine(1, sends(0, 0, 0), receives(0, 0, 0)), machine(1, receives(0, 0, 0), sends(0, 0, 0)), 0, 0, true},
		{"fewer Ends than States", withEnds(machine(3), true, true), withEnds(machine(3), true, true), 2, 2, true},
		{"fewer Ends than States, where the older one has Ends", withEnds(machine(3), true, true), one, 2, 0, false},
		{"fewer Ends than States, of the older one", withEnds(one, false), withEnds(machine(3), true, true), 0, 2, true},
		{"fewer Ends than States, the last one", withEnds(machine(3), true, true), one, 1, 0, true},
		{"fewer Ends than States, the last one of the older one", withEnds(one, false), withEnds(machine(3), true, true), 0, 1, false},
		{"no Ends at all", withEnds(machine(3)), one, 0, 0, false},
		{"no Ends at all of the older one", withEnds(one, false), withEnds(machine(3)), 0, 0, true},
		{"Ends in the spare capacity", withEnds(machine(2), []bool{true, true}[:1]...), one, 1, 0, false},
		{"Ends in the spare capacity of the older one", withEnds(one, false), withEnds(machine(2), []bool{true, true}[:1]...), 0, 1, true},
		{"more Ends than States, at a state", withEnds(one, true, false), one, 0, 0, true},
		{"more Ends than States, at a state of the older one", withEnds(one, false), withEnds(one, true, true), 0, 0, false},
		{"more Ends than States, not set behind them", withEnds(one, true, false), one, 1, 0, false},
		{"more Ends than States, behind all of them", withEnds(one, true, true), one, 2, 0, false},
		// A state that does not exist has no Ends, also where there is an element for it.
		{"more Ends than States, set behind them", withEnds(one, false, true), one, 1, 0, false},
		{"more Ends than States, set behind them in the older one", withEnds(one, false), withEnds(one, false, true), 0, 1, true},
		{"more Ends than States, set behind them in both", withEnds(one, true, true), withEnds(one, true, true), 1, 1, true},
		{"more Ends than MaxStates", withEnds(machine(9), slices.Repeat([]bool{true}, 9)...), one, 8, 0, true},
		{"Ends without States", impl.Machine{Ends: []bool{true}}, one, 0, 0, false},
		{"Ends without States, of the older one", withEnds(one, false), impl.Machine{Ends: []bool{true}}, 0, 0, true},
		{"Ends and the least int as States", impl.Machine{States: math.MinInt, Ends: []bool{true}}, one, 0, 0, false},
		{"Ends and the least int as States, of the older one", withEnds(one, false), impl.Machine{States: math.MinInt, Ends: []bool{true}}, 0, 0, true},
		{"Ends and the greatest int as States", impl.Machine{States: math.MaxInt, Ends: []bool{true}}, one, 0, 0, true},
		{"Ends and the greatest int as States, of the older one", withEnds(one, false), impl.Machine{States: math.MaxInt, Ends: []bool{true}}, 0, 0, false},
		{"the state -1 with Ends", withEnds(one, true, true), one, -1, 0, false},
		{"moves of states that do not exist", far, far, -1, -1, true},
		{"moves of states that do not exist, received", far, far, math.MaxInt, math.MaxInt, true},
		{"moves of the state States", far, far, 1, 1, true},
		{"moves of different states that do not exist", far, far, -1, math.MaxInt, false},
		{"moves of different states that do not exist, other messages", far, far, -1, 1, false},
		{"moves of a state that does not exist, of the newer one alone", far, far, -1, -2, false},
		{"moves of a state that does not exist, of the older one alone", far, far, math.MaxInt - 1, math.MaxInt, false},
		{"messages beyond all limits", without(wide, 1), wide, 0, 0, true},
		{"more messages beyond all limits", wide, without(wide, 1), 0, 0, false},
		{"messages beyond all limits, received", dualOf(wide), dualOf(without(wide, 0)), 0, 0, true},
		{"fewer messages beyond all limits, received", dualOf(without(wide, 0)), dualOf(wide), 0, 0, false},
		{"a move in the spare capacity", machine(1, []impl.Move{sends(0, 0, 0), sends(0, 1, 0)}[:1]...), machine(1, sends(0, 0, 0)), 0, 0, true},
		{"a move in the spare capacity of the older one", machine(1, sends(0, 1, 0)), machine(1, []impl.Move{sends(0, 0, 0), sends(0, 1, 0)}[:1]...), 0, 0, false},
	})
	for _, x := range noMachines() {
		checkSuccession(t, "no machine and itself", x, x, stateLimits())
		for _, n := range stateLimits() {
			checkFollowsAt(t, "no machine and itself", x, x, n, n, true)
		}
	}
}

// followCase is what a test says of two machines: the pairs in order, and the first one
// in which the newer machine does not follow.
type followCase struct {
	name         string
	newer, older impl.Machine
	pairs        [][]int
	fault        []int
}

func followCases() []followCase {
	a, d := asker(), dualOf(asker())
	more, less := withMoves(a, receives(1, 3, 2)), without(d, 2)
	one, open := machine(1), withEnds(machine(1), false)
	full, wide := greatest(), spread()
	stream, other := streams()
	circle, three := machine(2, sends(0, 0, 1), sends(1, 0, 0)), machine(3, sends(0, 0, 1), sends(1, 0, 2), sends(2, 0, 0))
	all := []bool{true, true, true, true, true, true}
	thrice := couples(0, 0, 1, 1, 2, 2)
	// Only the newer one receives 3 in the state 0, and only the older one sends 4 in 1.
	guarded := withEnds(machine(4, receives(0, 0, 1), receives(0, 3, 3), sends(1, 0, 2), sends(3, 5, 3)), all[:4]...)
	guarding := withEnds(machine(4, receives(0, 0, 1), sends(1, 4, 3), sends(1, 0, 2), receives(3, 5, 3)), all[:4]...)
	return []followCase{
		{"a machine and itself", a, a, thrice, nil},
		{"a dual and itself", d, d, thrice, nil},
		{"it receives more", more, a, thrice, nil},
		{"it receives less", a, more, thrice, bytesOf(1, 1)},
		{"it receives another message instead", withMoves(without(a, 1), receives(1, 3, 2)), a, couples(0, 0, 1, 1), bytesOf(1, 1)},
		{"it sends less", less, d, thrice, nil},
		{"it sends more", d, less, thrice, bytesOf(1, 1)},
		{"it sends less, and the end is not reached", without(d, 1), d, couples(0, 0, 1, 1), nil},
		{"it sends nothing", without(less, 1), d, couples(0, 0, 1, 1), bytesOf(1, 1)},
		{"it sends where the older one sends nothing", d, without(less, 1), couples(0, 0, 1, 1), bytesOf(1, 1)},
		{"it sends at the end", withMoves(a, sends(2, 0, 0)), a, thrice, bytesOf(2, 2)},
		{"it does not send at the end", a, withMoves(a, sends(2, 0, 0)), thrice, bytesOf(2, 2)},
		{"it receives at the end", withMoves(a, receives(2, 0, 0)), a, thrice, bytesOf(2, 2)},
		{"it does not receive at the end", a, withMoves(a, receives(2, 0, 0)), thrice, bytesOf(2, 2)},
		{"it receives nothing", without(without(a, 2), 1), a, couples(0, 0, 1, 1), bytesOf(1, 1)},
		{"it has no Ends at the end", withEnds(a, false, false, false), a, thrice, bytesOf(2, 2)},
		{"it has Ends where the older one has none", a, withEnds(a, false, false, false), thrice, nil},
		{"it has Ends everywhere", withEnds(a, all[:3]...), a, thrice, nil},
		{"it has no Ends behind", a, withEnds(a, false, true, true), thrice, bytesOf(1, 1)},
		{"it has no Ends at the first pair", a, withEnds(a, true, false, true), thrice, bytesOf(0, 0)},
		{"it sends nothing at the first pair", without(a, 0), a, couples(0, 0), bytesOf(0, 0)},
		{"it sends more at the first pair", withMoves(a, sends(0, 1, 0)), a, thrice, bytesOf(0, 0)},
		{"it sends another message at the first pair", machine(3, sends(0, 1, 1)), a, couples(0, 0), bytesOf(0, 0)},
		{"it receives where the older one sends", d, a, couples(0, 0), bytesOf(0, 0)},
		{"one state without moves", one, one, couples(0, 0), nil},
		{"one state without moves, and no Ends", open, one, couples(0, 0), bytesOf(0, 0)},
		{"one state without moves, and Ends", one, open, couples(0, 0), nil},
		{"one state without moves, and no Ends of both", open, open, couples(0, 0), nil},
		{"more states than the older one", withEnds(machine(6), all...), machine(1), couples(0, 0), nil},
		{"fewer states than the older one", one, withEnds(machine(6), all...), couples(0, 0), nil},
		{"another To, to a state like it", machine(3, sends(0, 0, 2), receives(1, 4, 1)), machine(3, sends(0, 0, 1), sends(2, 3, 2)), couples(0, 0, 2, 1), nil},
		{"a fault in a state that is not reached", withMoves(machine(3, sends(0, 0, 1)), sends(2, 0, 2)), withMoves(machine(3, sends(0, 0, 1)), receives(2, 0, 2)), couples(0, 0, 1, 1), nil},
		{"a fault in a state that is not reached together", guarded, guarding, couples(0, 0, 1, 1, 2, 2), nil},
		{"a fault in a state that is not reached together, and others", guarding, guarded, couples(0, 0, 1, 1, 2, 2), bytesOf(0, 0)},
		{"pairs as they are found, not as deep as they are", wide, wide, couples(0, 0, 1, 1, 2, 2, 3, 3, 4, 4, 5, 5), nil},
		{"the first fault that is found, not the deepest", withEnds(wide, make([]bool, 6)...), withEnds(wide, false, false, true, true, true, true), couples(0, 0, 1, 1, 2, 2, 3, 3, 4, 4, 5, 5), bytesOf(2, 2)},
		{"MaxStates states and MaxMoves moves", full, full, couples(0, 0, 1, 1, 5, 5, 2, 2, 4, 4, 3, 3), nil},
		{"MaxStates states and MaxMoves moves, one less", without(full, 0), full, couples(0, 0, 1, 1, 2, 2, 3, 3, 4, 4, 5, 5), nil},
		{"MaxStates states and MaxMoves moves, one received less", without(full, 2), full, couples(0, 0, 1, 1, 5, 5, 2, 2, 4, 4, 3, 3), bytesOf(1, 1)},
		{"MaxStates states and MaxMoves moves, the Ends of the last pair", withEnds(full, make([]bool, 6)...), full, couples(0, 0, 1, 1, 5, 5, 2, 2, 4, 4, 3, 3), bytesOf(5, 5)},
		{"every pair", withEnds(stream, all...), other, everyCouple(), nil},
		{"every pair, and a fault behind many", stream, other, everyCouple(), bytesOf(0, 5)},
		{"every pair, and a fault at the last one", withEnds(stream, true, true, true, true, true, false), other, everyCouple(), bytesOf(5, 5)},
		{"a state of the newer one with several of the older one", machine(1, sends(0, 0, 0)), three, couples(0, 0, 0, 1, 0, 2), nil},
		{"a state of the older one with several of the newer one", withEnds(three, all[:3]...), machine(1, sends(0, 0, 0)), couples(0, 0, 1, 0, 2, 0), nil},
		{"a state of the older one with several of the newer one, and a fault behind", withEnds(three, true, true, false), machine(1, sends(0, 0, 0)), couples(0, 0, 1, 0, 2, 0), bytesOf(2, 0)},
		{"two circles of other lengths", withEnds(circle, all[:2]...), three, couples(0, 0, 1, 1, 0, 2, 1, 0, 0, 1, 1, 2), nil},
		{"two circles of other lengths, and a fault in a pair of other states", circle, three, couples(0, 0, 1, 1, 0, 2, 1, 0, 0, 1, 1, 2), bytesOf(0, 2)},
		{"several messages to the same pair", machine(2, sends(0, 1, 1), sends(0, 0, 1)), machine(2, sends(0, 0, 1), sends(0, 1, 1)), couples(0, 0, 1, 1), nil},
		{"a loop", machine(1, receives(0, 5, 0)), machine(1, receives(0, 5, 0)), couples(0, 0), nil},
		{"messages ascend, moves do not", machine(3, receives(0, 4, 1), receives(0, 1, 2)), machine(3, receives(0, 4, 2), receives(0, 1, 1)), couples(0, 0, 2, 1, 1, 2), bytesOf(1, 2)},
	}
}

// everyCouple has every pair of six states in the order in which two streams find them.
func everyCouple() [][]int {
	var l [][]int
	for sum := range 11 {
		for y := range 6 {
			if x := sum - y; x >= 0 && x < 6 {
				l = append(l, bytesOf(x, y))
			}
		}
	}
	return l
}

func TestFollowPairs(t *testing.T) {
	for _, c := range followCases() {
		checkFollowPairs(t, c.name, c.newer, c.older, c.pairs)
		if got := followPairsOf(c.newer, c.older); !samePairs(got, c.pairs) {
			t.Errorf("%s: the test's own answer is %v", c.name, got)
		}
		checkSuccession(t, c.name, c.newer, c.older, bytesOf(-1, 0, 1, 2, 3, 4, 5, 6))
	}
}

func TestFollows(t *testing.T) {
	for _, c := range followCases() {
		checkFollows(t, c.name, c.newer, c.older, len(c.fault) == 0)
		if got := firstFaultOf(c.newer, c.older); !slices.Equal(got, c.fault) {
			t.Errorf("%s: the test's own answer is %v", c.name, got)
		}
		for _, p := range c.pairs {
			if slices.Equal(p, c.fault) {
				checkFollowsAt(t, c.name, c.newer, c.older, p[0], p[1], false)
				break
			}
			checkFollowsAt(t, c.name, c.newer, c.older, p[0], p[1], true)
		}
		if len(c.fault) > 0 {
			continue
		}
		for _, peer := range append(peersOf(c.newer, c.older, 1), machine(1)) {
			checkPromise(t, c.name, c.newer, c.older, peer)
		}
	}
}

// peersOf returns machines that run together with the one or the other of two.
func peersOf(newer impl.Machine, older impl.Machine, seed int) []impl.Machine {
	var l []impl.Machine
	for _, x := range chainOf(older, newer) {
		stopping := withEnds(x, slices.Repeat([]bool{true}, x.States)...)
		l = append(l, dualOf(x), dualOf(stopping), nearDual(x, seed), nearDual(stopping, seed+1))
	}
	return l
}

// successorByChance changes a valid machine a few times so that it receives more, sends
// less but something, may stop in more states, or has one of its states twice.
func successorByChance(x impl.Machine, seed int) impl.Machine {
	pick := chance(seed)
	x = dualOf(dualOf(x))
	for range 1 + pick.IntN(8) {
		state, msg, to := pick.IntN(x.States), pick.IntN(6), pick.IntN(x.States)
		switch pick.IntN(5) {
		case 0:
			if hasMoves(x, state, false) && moveOf(x, state, false, msg) < 0 && len(x.Moves) < 12 {
				x.Moves = append(x.Moves, receives(state, msg, to))
			}
		case 1:
			if l := movesFrom(x, state, true); len(l) > 1 {
				x = without(x, moveOf(x, state, true, l[pick.IntN(len(l))]))
			}
		case 2:
			x.Ends[state] = true
		case 3:
			pick.Shuffle(len(x.Moves), func(i int, k int) { x.Moves[i], x.Moves[k] = x.Moves[k], x.Moves[i] })
		case 4:
			if y := withTwin(x, state, pick); isMachineOf(y) {
				x = y
			}
		}
	}
	return x
}

// withTwin returns a machine that has a state twice: some of the moves to it lead to its
// twin.
func withTwin(x impl.Machine, state int, pick *rand.Rand) impl.Machine {
	twin := x.States
	y := impl.Machine{States: twin + 1, Ends: append(slices.Clone(x.Ends), x.Ends[state])}
	for _, m := range x.Moves {
		y.Moves = append(y.Moves, m)
		if m.From == state {
			m.From = twin
			y.Moves = append(y.Moves, m)
		}
	}
	for i := range y.Moves {
		if y.Moves[i].To == state && pick.IntN(2) == 0 {
			y.Moves[i].To = twin
		}
	}
	return y
}

// The promise, for successors that are made to follow.
func TestSuccessorsAreSafe(t *testing.T) {
	safe, other, apart := 0, 0, 0
	for seed := range 3000 {
		older := machineByChance(seed)
		newer := successorByChance(older, seed)
		checkFollows(t, "a successor by chance", newer, older, true)
		checkSuccession(t, "a successor by chance", newer, older, bytesOf(0, seed%7-1))
		for _, peer := range peersOf(newer, older, seed) {
			if checkPromise(t, "a successor by chance", newer, older, peer) {
				safe++
			}
		}
		if !impl.Follows(older, newer) {
			other++
		}
		if slices.ContainsFunc(impl.FollowPairs(newer, older), func(p []int) bool { return p[0] != p[1] }) {
			apart++
		}
	}
	if safe < 3000 || other < 500 || apart < 200 {
		t.Errorf("%d peers are safe with older machines; %d of these do not follow the newer one, %d come apart", safe, other, apart)
	}
}

// The promise, for machines that are changed in any way: some follow, some do not, each by
// every condition.
func TestChangedMachinesAreSafeIfTheyFollow(t *testing.T) {
	var broken [conditions]int
	follow, safe, behind := 0, 0, 0
	for seed := range 6000 {
		older := machineByChance(seed)
		newer := dualOf(nearDual(older, seed))
		switch seed % 6 {
		case 0:
			newer = machineByChance(seed + 100000)
		case 1:
			older, newer = streamByChance(seed, seed%4 < 2), streamByChance(seed+100000, seed%4 < 2)
		case 2:
			newer.Ends[seed%newer.States] = false
		case 3:
			if len(older.Moves) > 0 && len(newer.Moves) > 0 {
				newer = without(newer, seed%len(newer.Moves))
			}
		}
		checkSuccession(t, "changed by chance", newer, older, bytesOf(0, seed%7-1))
		if fault := firstFaultOf(newer, older); len(fault) > 0 {
			for i, is := range brokenAt(newer, older, fault[0], fault[1]) {
				if is {
					broken[i]++
				}
			}
			if !slices.Equal(fault, bytesOf(0, 0)) {
				behind++
			}
			continue
		}
		follow++
		for _, peer := range peersOf(newer, older, seed) {
			if checkPromise(t, "changed by chance", newer, older, peer) {
				safe++
			}
		}
	}
	if slices.Min(broken[:]) < 100 || follow < 500 || safe < 500 || behind < 300 {
		t.Errorf("%v are broken, %d follow, %d peers are safe, %d have a fault behind", broken, follow, safe, behind)
	}
}

func TestEachMachineFollowsItself(t *testing.T) {
	machines := someMachines()
	for seed := range 1000 {
		machines = append(machines, machineByChance(seed))
	}
	a, b := streams()
	for _, x := range append(machines, a, b, spread()) {
		for _, y := range chainOf(x, dualOf(x)) {
			checkFollows(t, "itself", y, y, true)
			checkSuccession(t, "itself", y, dualOf(dualOf(y)), bytesOf(0, y.States-1))
			pairs, states := impl.FollowPairs(y, y), reachedStates(y)
			if len(pairs) != len(states) {
				t.Errorf("FollowPairs(%s) is %v, and the states are %v", pairText(y, y), pairs, states)
			}
			for _, p := range pairs {
				if p[0] != p[1] || !states[p[0]] {
					t.Errorf("FollowPairs(%s) is %v", pairText(y, y), pairs)
				}
			}
			// Only where it has no moves at all may it take the place of its dual.
			first := slices.ContainsFunc(y.Moves, func(m impl.Move) bool { return m.From == 0 })
			checkFollows(t, "its dual", y, dualOf(y), !first)
		}
	}
}

// eachChangeBy calls use with copies of a valid machine that have one change in a state
// that is reached, with the state.
func eachChangeBy(x impl.Machine, use func(name string, changed impl.Machine, state int, follows bool, followed bool)) {
	for _, state := range slices.Sorted(maps.Keys(reachedStates(x))) {
		sent, received := movesFrom(x, state, true), movesFrom(x, state, false)
		for _, msg := range sent {
			use("it sends less", without(x, moveOf(x, state, true, msg)), state, len(sent) > 1, false)
		}
		for _, msg := range received {
			use("it receives less", without(x, moveOf(x, state, false, msg)), state, false, len(received) > 1)
		}
		for _, msg := range bytesOf(0, 3, 5) {
			if len(x.Moves) < 12 && len(sent) == 0 && !slices.Contains(received, msg) {
				use("it receives more", withMoves(x, receives(state, msg, msg%x.States)), state, len(received) > 0, false)
			}
			if len(x.Moves) < 12 && len(received) == 0 && !slices.Contains(sent, msg) {
				use("it sends more", withMoves(x, sends(state, msg, msg%x.States)), state, false, len(sent) > 0)
			}
		}
		y := withEnds(x, slices.Clone(x.Ends)...)
		y.Ends[state] = !x.Ends[state]
		use("Ends", y, state, y.Ends[state], x.Ends[state])
	}
}

// Each change makes a machine that follows, or is followed, or neither, as the conditions
// say, and the fault is in the state that was changed.
func TestOneChange(t *testing.T) {
	counts := map[string]int{}
	machines := someMachines()
	for seed := range 700 {
		machines = append(machines, machineByChance(seed))
	}
	for _, x := range machines {
		eachChangeBy(x, func(name string, y impl.Machine, state int, follows bool, followed bool) {
			checkFollows(t, name, y, x, follows)
			checkFollows(t, name+", the older one", x, y, followed)
			checkFollowsAt(t, name, y, x, state, state, follows)
			checkFollowsAt(t, name+", the older one", x, y, state, state, followed)
			checkSuccession(t, name, y, x, bytesOf(state))
			for _, other := range []int{-1, 0, 1, 2, 3, 4, 5, 6} {
				if other != state {
					checkFollowsAt(t, name+", another state", y, x, other, other, true)
				}
			}
			if follows {
				counts[name]++
				for _, peer := range peersOf(y, x, len(counts)) {
					checkPromise(t, name, y, x, peer)
				}
			}
			if followed {
				counts[name+", followed"]++
				for _, peer := range peersOf(x, y, len(counts)) {
					checkPromise(t, name, x, y, peer)
				}
			}
		})
	}
	for _, name := range []string{"it sends less", "it receives more", "Ends", "it receives less, followed", "it sends more, followed", "Ends, followed"} {
		if counts[name] < 100 {
			t.Errorf("%s: %d machines", name, counts[name])
		}
	}
}

// A word of what the newer machine sends and the older one receives is made by both if the
// one follows the other, and it comes to one of the pairs.
func TestSharedWordsComeToPairs(t *testing.T) {
	long := 0
	for seed := range 1500 {
		pick := chance(seed)
		older := machineByChance(seed)
		newer := successorByChance(older, seed)
		pairs, word := impl.FollowPairs(newer, older), []int{}
		for range 12 {
			x, y := impl.RunMachine(newer, word), impl.RunMachine(older, word)
			if !slices.ContainsFunc(pairs, func(p []int) bool { return slices.Equal(p, bytesOf(x, y)) }) {
				t.Errorf("FollowPairs(%s) is %v, and %v comes to %d and %d", pairText(newer, older), pairs, word, x, y)
				break
			}
			next := movesFrom(newer, x, true)
			for _, msg := range movesFrom(older, y, false) {
				next = append(next, ^msg)
			}
			if len(next) == 0 {
				break
			}
			word = append(word, next[pick.IntN(len(next))])
		}
		if len(word) == 12 {
			long++
		}
	}
	if long < 200 {
		t.Errorf("only %d words are long", long)
	}
}

// Of every few machines of two states: who follows is safe wherever the other one is, and
// what follows one that follows does so as well.
func TestEveryFewShortMachines(t *testing.T) {
	few, more := shortMachines()
	for i, a := range few {
		for _, b := range few[i:] {
			checkSuccession(t, "few moves", a, b, bytesOf(0, 1, 2))
		}
	}
	for i, a := range more {
		for _, b := range more[i:] {
			checkSuccession(t, "more moves", a, b, bytesOf(0))
		}
	}
	for _, machines := range [][]impl.Machine{few, more} {
		safe, follows := everyTwo(machines, impl.IsSafe), everyTwo(machines, impl.Follows)
		kept := 0
		for newer := range machines {
			for older := range machines {
				if !follows[newer][older] {
					continue
				}
				for peer := range machines {
					if safe[older][peer] && !safe[newer][peer] {
						t.Errorf("%s is safe with %s, and its successor %s is not", machineText(machines[older]), machineText(machines[peer]), machineText(machines[newer]))
					}
					if follows[older][peer] && !follows[newer][peer] {
						t.Errorf("%s follows %s, but not %s", machineText(machines[newer]), machineText(machines[older]), machineText(machines[peer]))
					}
					if safe[older][peer] && newer != older {
						kept++
					}
				}
			}
		}
		if kept < 1000 {
			t.Errorf("only %d times is a successor safe", kept)
		}
	}
}

func everyTwo(machines []impl.Machine, ask func(a impl.Machine, b impl.Machine) bool) [][]bool {
	var answers [][]bool
	for _, a := range machines {
		var row []bool
		for _, b := range machines {
			row = append(row, ask(a, b))
		}
		answers = append(answers, row)
	}
	return answers
}

func TestChainFollows(t *testing.T) {
	a, d := asker(), dualOf(asker())
	more := withMoves(a, receives(1, 3, 2))
	most := withMoves(more, receives(1, 4, 0))
	less := without(d, 2)
	never := without(less, 1)
	bad := withEnds(a)
	cases := []struct {
		name  string
		chain []impl.Machine
		want  bool
	}{
		{"nil", nil, false},
		{"empty", chainOf(), false},
		{"empty, with machines in the spare capacity", chainOf(a, a)[:0], false},
		{"one machine", chainOf(a), true},
		{"one machine of one state", chainOf(machine(1)), true},
		{"one machine at the limits", chainOf(greatest()), true},
		{"one machine that is not valid", chainOf(bad), false},
		{"the zero value", chainOf(impl.Machine{}), false},
		{"the zero value twice", chainOf(impl.Machine{}, impl.Machine{}), false},
		{"one machine, with one that is not valid in the spare capacity", chainOf(a, bad)[:1], true},
		{"two that follow", chainOf(a, more), true},
		{"two the other way round", chainOf(more, a), false},
		{"the same twice", chainOf(d, d), true},
		{"two that do not follow each other", chainOf(a, d), false},
		{"two that follow, with others in the spare capacity", chainOf(a, more, a)[:2], true},
		{"three that follow", chainOf(a, more, most), true},
		{"three, the first one leaps", chainOf(a, most, more), false},
		{"three, the first two turned", chainOf(more, a, most), false},
		{"three the other way round", chainOf(most, more, a), false},
		{"three, there and back", chainOf(a, more, a), false},
		{"three, a leap", chainOf(a, most, most), true},
		{"three that send less", chainOf(d, less, less), true},
		{"three that send less until nothing", chainOf(d, less, never), false},
		{"three, one of another kind in the middle", chainOf(a, d, a), false},
		{"three, the last one of another kind", chainOf(a, more, d), false},
		{"three, the first one of another kind", chainOf(d, a, more), false},
		{"five that follow", chainOf(a, a, more, more, most), true},
		{"the last one follows the first one, but not all between", chainOf(a, most, more, most), false},
		{"two, the first one not valid", chainOf(bad, a), false},
		{"two, the last one not valid", chainOf(a, bad), false},
		{"two, both not valid", chainOf(bad, bad), false},
		{"three, the first one not valid", chainOf(bad, a, more), false},
		{"three, the middle one not valid", chainOf(a, bad, more), false},
		{"three, the last one not valid", chainOf(a, more, bad), false},
	}
	for _, c := range cases {
		checkChain(t, c.name, c.chain, c.want)
		if got := chainFollowsOf(c.chain); got != c.want {
			t.Errorf("%s: the test's own answer is %v", c.name, got)
		}
	}
	for _, x := range someMachines() {
		checkChain(t, "one machine", chainOf(x), true)
	}
	for _, x := range noMachines() {
		checkChain(t, "one machine that is not valid", chainOf(x), false)
	}
	many := slices.Repeat(chainOf(a), 500)
	checkChain(t, "many", append(many, more, most), true)
	checkChain(t, "many, the last one does not follow", append(many, most, more), false)
	checkChain(t, "many, the first one is not followed", append(chainOf(more), many...), false)
	checkChain(t, "many, and one that is not valid", slices.Insert(slices.Clone(many), 250, bad), false)
}

func chainByChance(seed int, length int) []impl.Machine {
	l := chainOf(machineByChance(seed))
	for i := range length - 1 {
		l = append(l, successorByChance(l[i], seed+i))
	}
	return l
}

// The promise over chains: the last machine is safe wherever the first one is. With one
// fault at any place, a chain does not follow.
func TestChainsByChance(t *testing.T) {
	safe, faults := 0, 0
	invalid := noMachines()
	for seed := range 800 {
		l := chainByChance(seed, 1+seed%6)
		first, last := l[0], l[len(l)-1]
		checkChain(t, "by chance", l, true)
		checkFollows(t, "the ends of a chain", last, first, true)
		for _, peer := range peersOf(last, first, seed) {
			if checkPromise(t, "the ends of a chain", last, first, peer) && len(l) > 1 {
				safe++
			}
		}
		for i := range l {
			spoiled := slices.Clone(l)
			spoiled[i] = invalid[(seed+i)%len(invalid)]
			checkChain(t, "one that is not valid", spoiled, false)
			checkChain(t, "one that is not valid, inserted", slices.Insert(slices.Clone(l), i, spoiled[i]), false)
			spoiled[i] = dualOf(nearDual(l[i], seed))
			checkChain(t, "one that is changed", spoiled, chainFollowsOf(spoiled))
			if !chainFollowsOf(spoiled) {
				faults++
			}
			eachChangeBy(l[i], func(name string, y impl.Machine, state int, follows bool, _ bool) {
				if state == 0 && !follows {
					checkChain(t, name, slices.Insert(slices.Clone(l), i+1, y), false)
				}
			})
		}
	}
	if safe < 1000 || faults < 200 {
		t.Errorf("%d peers are safe, %d chains are changed", safe, faults)
	}
}

func TestFollowPairsOfNoMachines(t *testing.T) {
	valid, invalid := someMachines(), noMachines()
	for i, x := range invalid {
		others := append(slices.Clone(invalid[i%7:i%7+8]), valid[i%len(valid)], dualOf(x), x, asker(), dualOf(asker()), machine(1))
		for _, y := range others {
			checkFollowPairs(t, "no machine", x, y, nil)
			checkFollows(t, "no machine", x, y, false)
			checkFollows(t, "no machine", y, x, false)
			checkSuccession(t, "no machine", x, y, bytesOf(-1, 0, 1, math.MaxInt))
		}
	}
	// One fault takes the pairs away that are there without it.
	for _, x := range valid {
		if len(impl.FollowPairs(x, x)) == 0 {
			t.Errorf("FollowPairs(%s) is empty", pairText(x, x))
		}
		eachSpoiled(x, func(name string, spoiled impl.Machine) {
			checkSuccession(t, name, spoiled, x, bytesOf(0))
			checkFollowPairs(t, name, spoiled, x, nil)
			checkFollows(t, name, spoiled, x, false)
			checkFollows(t, name, x, spoiled, false)
			checkFollows(t, name, spoiled, spoiled, false)
			checkChain(t, name, chainOf(spoiled), false)
		})
	}
}

// Any int in every place of both machines.
func TestSuccessorsWithAnyIntEverywhere(t *testing.T) {
	eachWithAnyInt(func(x impl.Machine, changed impl.Machine, n int) {
		checkSuccession(t, "any int in one", changed, x, bytesOf(0, 1, n))
		checkSuccession(t, "any int in both", changed, changed, bytesOf(0, 1, n))
		checkSuccession(t, "any int as state", x, x, bytesOf(0, n))
	})
}

func TestSuccessorsOfManyMoves(t *testing.T) {
	const many = 100000
	var rising, falling []impl.Move
	for i := range many {
		rising, falling = append(rising, sends(0, i, i)), append(falling, sends(0, many-1-i, -i))
	}
	a, b := machine(1, rising...), machine(1, falling...)
	checkFollowsAt(t, "many", a, b, 0, 0, true)
	checkFollowsAt(t, "many", dualOf(b), dualOf(a), 0, 0, true)
	checkFollowsAt(t, "many, one less", without(a, many/2), b, 0, 0, true)
	checkFollowsAt(t, "many, one more", a, without(b, many/2), 0, 0, false)
	checkFollowsAt(t, "many, one more received", dualOf(a), dualOf(without(b, many/2)), 0, 0, true)
	checkFollowsAt(t, "many, one less received", dualOf(without(a, many/2)), dualOf(b), 0, 0, false)
	checkFollowsAt(t, "many of another state", a, b, 1, 1, true)
	checkFollowsAt(t, "many of another state of the newer one", a, b, 1, 0, false)
	checkFollowsAt(t, "many of another state of the older one", a, b, 0, 1, false)
	checkFollowsAt(t, "none of many", machine(1), a, 0, 0, false)
	same := machine(1, slices.Repeat([]impl.Move{receives(0, 0, 1)}, many)...)
	checkFollowsAt(t, "the same many times", same, machine(1, receives(0, 0, 0)), 0, 0, true)
	checkFollowsAt(t, "the same many times, of the older one", machine(1, receives(0, 0, 0)), same, 0, 0, true)
	for _, x := range []impl.Machine{a, b, same, {States: many, Ends: make([]bool, many)}} {
		checkFollowPairs(t, "many", x, x, nil)
		checkFollows(t, "many", x, x, false)
		checkFollows(t, "many", x, machine(1), false)
		checkFollows(t, "many", machine(1), x, false)
	}
	ends := impl.Machine{States: many, Ends: slices.Repeat([]bool{true}, many)}
	checkFollowsAt(t, "many Ends", ends, ends, many-1, 0, true)
	checkFollowsAt(t, "many Ends", ends, ends, many, many-1, false)
}

func memoryOfChain(l []impl.Machine) string {
	text := ""
	for _, x := range whole(l) {
		text += memoryOfMachine(x)
	}
	return text
}

func TestSuccessorsKeepArguments(t *testing.T) {
	two := somePairs()
	for _, c := range followCases() {
		two = append(two, [2]impl.Machine{c.newer, c.older})
	}
	for _, m := range two {
		a, b := markedMachine(m[0]), markedMachine(m[1])
		l := append(chainOf(b, a, a), markedMachine(asker()), impl.Machine{States: 77})[:3]
		before, chainBefore := memoryOfMachine(a)+memoryOfMachine(b), memoryOfChain(l)
		impl.FollowPairs(a, b)
		impl.FollowPairs(a, a)
		impl.Follows(a, b)
		impl.Follows(b, b)
		for size := range len(l) + 1 {
			impl.ChainFollows(l[:size])
		}
		impl.ChainFollows(whole(l))
		for _, x := range stateLimits() {
			for _, y := range stateLimits() {
				impl.FollowsAt(a, b, x, y)
			}
		}
		if memoryOfMachine(a)+memoryOfMachine(b) != before || memoryOfChain(l) != chainBefore {
			t.Errorf("the arguments are changed to %s, %s, %s", memoryOfMachine(a), memoryOfMachine(b), memoryOfChain(l))
		}
	}
}

func TestFollowPairsShareNoMemory(t *testing.T) {
	two := somePairs()
	for _, c := range followCases() {
		two = append(two, [2]impl.Machine{c.newer, c.older})
	}
	for _, m := range two {
		a, b := markedMachine(m[0]), markedMachine(m[1])
		before := memoryOfMachine(a) + memoryOfMachine(b)
		want := fmt.Sprint(impl.FollowPairs(a, b), impl.FollowPairs(a, a))
		var pairs [][]int
		var lists [][][]int
		for range 2 {
			pairs = slices.Concat(pairs, impl.FollowPairs(a, b), impl.FollowPairs(a, a))
			lists = append(lists, impl.FollowPairs(a, b), impl.FollowPairs(a, a))
		}
		for i := range pairs {
			pairs[i] = whole(pairs[i])
		}
		for i := range lists {
			lists[i] = whole(lists[i])
		}
		checkApart(t, pairText(a, b), pairs)
		checkAllApart(t, pairText(a, b), lists, func(p *[]int) { *p = bytesOf(777) })
		if got := fmt.Sprint(impl.FollowPairs(a, b), impl.FollowPairs(a, a)); got != want {
			t.Errorf("of %s, the pairs are %s, not %s, after others were changed", pairText(a, b), got, want)
		}
		if memoryOfMachine(a)+memoryOfMachine(b) != before {
			t.Errorf("a pair writes into %s", pairText(a, b))
		}
		// The pairs stay as they are when the machines are changed later.
		l := impl.FollowPairs(a, b)
		text := fmt.Sprint(l)
		for _, x := range chainOf(a, b) {
			clear(whole(x.Ends))
			clear(whole(x.Moves))
		}
		if got := fmt.Sprint(l); got != text {
			t.Errorf("the pairs are %s, not %s, after the machines were changed", got, text)
		}
	}
}
