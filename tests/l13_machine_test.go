package tests

import (
	"fmt"
	"maps"
	"math"
	"slices"
	"testing"

	"loop.example/g03000/impl"
)

// Promise 13: the dual of the dual is the machine (chapter 13).

func sends(from int, msg int, to int) impl.Move {
	return impl.Move{From: from, Send: true, Msg: msg, To: to}
}

func receives(from int, msg int, to int) impl.Move {
	return impl.Move{From: from, Msg: msg, To: to}
}

// machine has Ends for the last of its states only.
func machine(states int, moves ...impl.Move) impl.Machine {
	ends := make([]bool, max(states, 0))
	if states > 0 {
		ends[states-1] = true
	}
	return impl.Machine{States: states, Ends: ends, Moves: moves}
}

// asker sends 0 and gets 1 or 2; after 2 it begins again.
func asker() impl.Machine {
	return machine(3, sends(0, 0, 1), receives(1, 1, 2), receives(1, 2, 0))
}

// greatest has as many states and moves as a machine may have, and the last message.
func greatest() impl.Machine {
	var moves []impl.Move
	for state := range 6 {
		x := sends(state, 0, (state+1)%6)
		x.Send = state%2 == 0
		y := x
		y.Msg, y.To = 5, (state+5)%6
		moves = append(moves, y, x)
	}
	return machine(6, moves...)
}

// isMachineOf says by another way than the program's whether a machine is valid: it
// counts the moves for each key that a move may have, and no move may be left over.
func isMachineOf(x impl.Machine) bool {
	counted, fine := 0, x.States >= 1 && x.States <= 6 && len(x.Ends) == x.States && len(x.Moves) <= 12
	for state := 0; fine && state < x.States; state++ {
		var byTurn [2]int
		for k := range 12 {
			count := 0
			for _, m := range x.Moves {
				if m.From == state && m.Send == (k < 6) && m.Msg == k%6 && m.To >= 0 && m.To < x.States {
					count++
				}
			}
			fine = fine && count < 2
			byTurn[k/6] += count
		}
		fine = fine && (byTurn[0] == 0 || byTurn[1] == 0)
		counted += byTurn[0] + byTurn[1]
	}
	return fine && counted == len(x.Moves)
}

// moveOf goes from the last move to the first one and keeps what it met last.
func moveOf(x impl.Machine, state int, send bool, msg int) int {
	found := -1
	for i, m := range slices.Backward(x.Moves) {
		if (impl.Move{From: state, Send: send, Msg: msg, To: m.To}) == m {
			found = i
		}
	}
	return found
}

func movesFrom(x impl.Machine, state int, send bool) []int {
	set := map[int]bool{}
	for _, m := range x.Moves {
		if m.From == state && m.Send == send {
			set[m.Msg] = true
		}
	}
	return slices.Sorted(maps.Keys(set))
}

// runOf asks for the state before the last number first.
func runOf(x impl.Machine, word []int) int {
	if !isMachineOf(x) || len(word) > 20 {
		return -1
	}
	if len(word) == 0 {
		return 0
	}
	last := word[len(word)-1]
	msg := last
	if last < 0 {
		msg = ^last
	}
	place := moveOf(x, runOf(x, word[:len(word)-1]), last >= 0, msg)
	if place < 0 {
		return -1
	}
	return x.Moves[place].To
}

func dualOf(x impl.Machine) impl.Machine {
	d := impl.Machine{States: x.States, Ends: slices.Clone(x.Ends)}
	for _, m := range x.Moves {
		if m.Send {
			d.Moves = append(d.Moves, receives(m.From, m.Msg, m.To))
		} else {
			d.Moves = append(d.Moves, sends(m.From, m.Msg, m.To))
		}
	}
	return d
}

// turned is the word that the other party makes at the same time.
func turned(word []int) []int {
	other := slices.Clone(word)
	for i := range other {
		other[i] = ^other[i]
	}
	return other
}

// machineText shows all that a machine has, and nil lists as empty ones.
func machineText(x impl.Machine) string {
	return fmt.Sprintf("%.300s", fmt.Sprint(x.States, x.Ends, x.Moves))
}

func sameMachine(a impl.Machine, b impl.Machine) bool {
	return a.States == b.States && slices.Equal(a.Ends, b.Ends) && slices.Equal(a.Moves, b.Moves)
}

func checkValid(t *testing.T, name string, x impl.Machine, want bool) {
	t.Helper()
	if got := impl.IsMachine(x); got != want {
		t.Errorf("%s: IsMachine(%s) is %v", name, machineText(x), got)
	}
}

func checkMove(t *testing.T, name string, x impl.Machine, state int, send bool, msg int, want int) {
	t.Helper()
	if got := impl.MoveOf(x, state, send, msg); got != want {
		t.Errorf("%s: MoveOf(%s, %d, %v, %d) is %d, not %d", name, machineText(x), state, send, msg, got, want)
	}
}

func checkMoves(t *testing.T, name string, x impl.Machine, state int, send bool, want []int) {
	t.Helper()
	if got := impl.MovesFrom(x, state, send); !slices.Equal(got, want) {
		t.Errorf("%s: MovesFrom(%s, %d, %v) is %.300s, not %.300s", name, machineText(x), state, send, fmt.Sprint(got), fmt.Sprint(want))
	}
}

// checkRun asks the dual as well, which makes the other half of each move.
func checkRun(t *testing.T, name string, x impl.Machine, word []int, want int) {
	t.Helper()
	if got := impl.RunMachine(x, word); got != want {
		t.Errorf("%s: RunMachine(%s, %.300s) is %d, not %d", name, machineText(x), fmt.Sprint(word), got, want)
	}
	if got := impl.RunMachine(impl.DualOf(x), turned(word)); got != want {
		t.Errorf("%s: of the dual, RunMachine(%s, %.300s) is %d, not %d", name, machineText(x), fmt.Sprint(word), got, want)
	}
}

// checkDual holds a dual against the test's own, and the promise.
func checkDual(t *testing.T, name string, x impl.Machine) {
	t.Helper()
	d := impl.DualOf(x)
	if !sameMachine(d, dualOf(x)) {
		t.Errorf("%s: DualOf(%s) is %s", name, machineText(x), machineText(d))
	}
	if again := impl.DualOf(d); !sameMachine(again, x) || !impl.EqualMachines(again, x) {
		t.Errorf("%s: the dual of the dual of %s is %s", name, machineText(x), machineText(again))
	}
	// A move that sends is never one that receives, so that only moves tell the two apart.
	if impl.EqualMachines(x, d) != (len(x.Moves) == 0) || impl.EqualMachines(d, x) != (len(x.Moves) == 0) {
		t.Errorf("%s: EqualMachines(%s, %s) is %v", name, machineText(x), machineText(d), impl.EqualMachines(x, d))
	}
	if impl.IsMachine(x) != impl.IsMachine(d) {
		t.Errorf("%s: IsMachine(%s) is %v, and of the dual %v", name, machineText(x), impl.IsMachine(x), impl.IsMachine(d))
	}
}

// checkMachine holds all that the program says of a machine against what the test works
// out, for the states and messages that it has and for some others.
func checkMachine(t *testing.T, name string, x impl.Machine, states []int, messages []int) {
	t.Helper()
	checkValid(t, name, x, isMachineOf(x))
	checkDual(t, name, x)
	for _, m := range x.Moves[:min(len(x.Moves), 20)] {
		checkMove(t, name, x, m.From, m.Send, m.Msg, moveOf(x, m.From, m.Send, m.Msg))
		checkMove(t, name, x, m.From, !m.Send, m.Msg, moveOf(x, m.From, !m.Send, m.Msg))
		checkMoves(t, name, x, m.From, m.Send, movesFrom(x, m.From, m.Send))
	}
	for _, state := range states {
		for _, send := range []bool{false, true} {
			checkMoves(t, name, x, state, send, movesFrom(x, state, send))
			for _, msg := range messages {
				checkMove(t, name, x, state, send, msg, moveOf(x, state, send, msg))
			}
		}
	}
	for _, msg := range messages {
		checkRun(t, name, x, bytesOf(msg), runOf(x, bytesOf(msg)))
	}
	checkRun(t, name, x, nil, runOf(x, nil))
}

// machineByChance returns a valid machine: each state has moves of one turn, or none.
func machineByChance(seed int) impl.Machine {
	pick := chance(seed)
	x := impl.Machine{States: 1 + pick.IntN(6)}
	var turns [6]int
	for state := range x.States {
		x.Ends = append(x.Ends, pick.IntN(2) == 0)
		turns[state] = pick.IntN(5)
	}
	for range pick.IntN(13) {
		state := pick.IntN(x.States)
		m := impl.Move{From: state, Send: turns[state] > 2, Msg: pick.IntN(6), To: pick.IntN(x.States)}
		if turns[state] > 0 && moveOf(x, m.From, m.Send, m.Msg) < 0 {
			x.Moves = append(x.Moves, m)
		}
	}
	return x
}

// wordByChance walks along the moves of a machine as far as there are some.
func wordByChance(x impl.Machine, seed int, most int) []int {
	pick := chance(seed)
	word, state := []int{}, 0
	for range most {
		var next []impl.Move
		for _, m := range x.Moves {
			if m.From == state {
				next = append(next, m)
			}
		}
		if len(next) == 0 {
			return word
		}
		m := next[pick.IntN(len(next))]
		n := m.Msg
		if !m.Send {
			n = -1 - m.Msg
		}
		word, state = append(word, n), m.To
	}
	return word
}

// eachSpoiled calls use with copies of a valid machine that have one fault each.
func eachSpoiled(x impl.Machine, use func(name string, spoiled impl.Machine)) {
	change := func(name string, edit func(y *impl.Machine)) {
		y := impl.Machine{States: x.States, Ends: slices.Clone(x.Ends), Moves: slices.Clone(x.Moves)}
		edit(&y)
		use(name, y)
	}
	for _, n := range []int{0, -1, 7, math.MinInt, math.MaxInt, x.States + 1, x.States - 1} {
		change("States", func(y *impl.Machine) { y.States = n })
	}
	change("fewer Ends", func(y *impl.Machine) { y.Ends = y.Ends[1:] })
	change("more Ends", func(y *impl.Machine) { y.Ends = append(y.Ends, true) })
	change("no Ends", func(y *impl.Machine) { y.Ends = nil })
	change("seven states", func(y *impl.Machine) { y.States, y.Ends = 7, make([]bool, 7) })
	change("too many moves", func(y *impl.Machine) {
		for len(y.Moves) <= 12 {
			y.Moves = append(y.Moves, sends(0, 0, 0))
		}
	})
	for i, m := range x.Moves {
		for _, n := range []int{-1, math.MinInt, math.MaxInt, -1 << 32, 1 << 32} {
			change("From", func(y *impl.Machine) { y.Moves[i].From = n })
			change("Msg", func(y *impl.Machine) { y.Moves[i].Msg = n })
			change("To", func(y *impl.Machine) { y.Moves[i].To = n })
		}
		change("From", func(y *impl.Machine) { y.Moves[i].From = x.States })
		change("Msg", func(y *impl.Machine) { y.Moves[i].Msg = 6 })
		change("To", func(y *impl.Machine) { y.Moves[i].To = x.States })
		if len(x.Moves) < 12 {
			other := m
			other.To = 0
			change("the same key at the end", func(y *impl.Machine) { y.Moves = append(y.Moves, other) })
			change("the same key at the front", func(y *impl.Machine) { y.Moves = slices.Insert(y.Moves, 0, other) })
			other.Send = !m.Send
			change("the other turn at the end", func(y *impl.Machine) { y.Moves = append(y.Moves, other) })
			other.Msg = (m.Msg + 1) % 6
			change("the other turn at the front", func(y *impl.Machine) { y.Moves = slices.Insert(y.Moves, 0, other) })
		}
	}
}

// someMachines returns valid machines about the limits of the chapter.
func someMachines() []impl.Machine {
	full := greatest()
	chain, fan := machine(6), machine(1)
	for state := range 5 {
		chain.Moves = append(chain.Moves, receives(state, state+1, state+1))
		fan.Moves = append(fan.Moves, sends(0, 5-state, 0))
	}
	return []impl.Machine{
		asker(), full, chain, fan, machine(1), machine(2), machine(6),
		{States: 1, Ends: make([]bool, 1)},
		{States: 6, Ends: make([]bool, 6), Moves: full.Moves},
		{States: 2, Ends: []bool{true, true}, Moves: []impl.Move{sends(0, 5, 1), receives(1, 5, 0)}},
		machine(1, sends(0, 0, 0)), machine(1, receives(0, 0, 0)), machine(1, sends(0, 5, 0)), machine(1, receives(0, 5, 0)),
		machine(3, sends(1, 0, 2)), machine(3, receives(2, 0, 0)), machine(2, sends(1, 3, 0), sends(1, 1, 1)),
		machine(6, sends(0, 0, 5), receives(5, 0, 0)), machine(6, sends(5, 5, 5)),
		machine(4, sends(0, 1, 1), sends(0, 0, 2), receives(1, 0, 3), receives(2, 0, 3)),
	}
}

// noMachines returns machines that are not valid, each by something else.
func noMachines() []impl.Machine {
	l := []impl.Machine{
		{}, {States: 1}, {Ends: []bool{true}}, {States: 1, Ends: []bool{}}, {States: 2, Ends: []bool{true}}, {States: -1},
		{States: math.MinInt}, {States: math.MaxInt}, {States: math.MaxInt, Ends: make([]bool, 6)}, machine(7), machine(100),
		{States: 1 << 32, Ends: nil}, {States: 1<<32 + 1, Ends: []bool{true}}, {Moves: []impl.Move{{}}}, {Ends: make([]bool, 3), Moves: make([]impl.Move, 3)},
		{States: 0, Moves: asker().Moves}, {States: -3, Ends: make([]bool, 3), Moves: asker().Moves},
		machine(1, make([]impl.Move, 2)...), machine(1, sends(0, 0, 0), sends(0, 0, 0)), machine(2, sends(0, 0, 0), sends(0, 0, 1)),
		machine(2, sends(0, 0, 1), receives(0, 0, 1)), machine(2, sends(0, 0, 1), receives(0, 1, 1)),
		machine(2, sends(0, 1, 0), sends(1, 1, 0), receives(1, 5, 0)), machine(2, receives(0, 1, 0), receives(1, 1, 0), sends(0, 5, 0)),
		machine(1, sends(math.MinInt, math.MinInt, math.MinInt)), machine(1, receives(math.MaxInt, math.MaxInt, math.MaxInt)),
		machine(6, append(greatest().Moves, sends(0, 1, 0))...), machine(6, append(greatest().Moves, greatest().Moves...)...),
	}
	for _, x := range []impl.Machine{asker(), greatest(), machine(1, receives(0, 5, 0))} {
		eachSpoiled(x, func(_ string, spoiled impl.Machine) { l = append(l, spoiled) })
	}
	return l
}

// machineLimits returns numbers about the limits of a state and a message.
func machineLimits() []int {
	return append(someNumbers(), -3, -6, -7, 8, 11, 12, 13, -1<<32-1)
}

func TestMachineLimits(t *testing.T) {
	if got := bytesOf(impl.MaxStates, impl.MaxMoves, impl.MaxMsg); !slices.Equal(got, bytesOf(6, 12, 5)) {
		t.Errorf("the limits are %v", got)
	}
}

func TestIsMachine(t *testing.T) {
	full := greatest().Moves
	cases := []struct {
		name string
		x    impl.Machine
		want bool
	}{
		{"the asker", asker(), true},
		{"one state, no moves", machine(1), true},
		{"one state, no moves and no Ends set", impl.Machine{States: 1, Ends: []bool{false}}, true},
		{"one state, empty moves", impl.Machine{States: 1, Ends: []bool{true}, Moves: []impl.Move{}}, true},
		{"MaxStates states, no moves", machine(6), true},
		{"MaxStates states, MaxMoves moves", machine(6, full...), true},
		{"MaxMoves moves, one twice", machine(6, append(slices.Clone(full[:11]), full[0])...), false},
		{"MaxMoves + 1 moves", machine(6, append(slices.Clone(full), sends(0, 1, 0))...), false},
		{"MaxMoves + 1 moves, one twice", machine(6, append(slices.Clone(full), full[0])...), false},
		{"MaxStates + 1 states", machine(7), false},
		{"no states", machine(0), false},
		{"no states, one end", impl.Machine{Ends: []bool{true}}, false},
		{"States -1", machine(-1), false},
		{"States of the least int", machine(math.MinInt), false},
		{"States of the greatest int", impl.Machine{States: math.MaxInt, Ends: make([]bool, 6)}, false},
		{"no Ends", impl.Machine{States: 1}, false},
		{"fewer Ends", impl.Machine{States: 3, Ends: make([]bool, 2)}, false},
		{"more Ends", impl.Machine{States: 3, Ends: make([]bool, 4)}, false},
		{"more Ends in the spare capacity", impl.Machine{States: 3, Ends: make([]bool, 9)[:3]}, true},
		{"too few Ends before spare capacity", impl.Machine{States: 3, Ends: make([]bool, 3)[:2]}, false},
		{"a bad move in the spare capacity", machine(1, []impl.Move{sends(0, 0, 0), sends(0, 0, 9)}[:1]...), true},
		{"a state that goes to itself", machine(1, sends(0, 3, 0)), true},
		{"a state that neither sends nor receives", machine(3, sends(0, 0, 1), sends(0, 1, 2)), true},
		{"a first state that neither sends nor receives", machine(3, sends(1, 0, 2), receives(2, 0, 1)), true},
		{"states that nothing leads to", machine(6, sends(4, 0, 5)), true},
		{"the messages 0 and MaxMsg sent", machine(1, sends(0, 0, 0), sends(0, 5, 0)), true},
		{"the messages 0 and MaxMsg received", machine(1, receives(0, 0, 0), receives(0, 5, 0)), true},
		{"MaxMsg + 1", machine(1, sends(0, 6, 0)), false},
		{"MaxMsg + 1 received", machine(1, receives(0, 6, 0)), false},
		{"Msg -1", machine(1, sends(0, -1, 0)), false},
		{"Msg -1 received", machine(1, receives(0, -1, 0)), false},
		{"From -1", machine(2, sends(-1, 0, 0)), false},
		{"From States", machine(2, sends(2, 0, 0)), false},
		{"From States - 1", machine(2, sends(1, 0, 0)), true},
		{"To -1", machine(2, sends(0, 0, -1)), false},
		{"To States", machine(2, sends(0, 0, 2)), false},
		{"To States - 1", machine(2, sends(0, 0, 1)), true},
		{"From MaxStates - 1 of fewer states", machine(5, sends(5, 0, 0)), false},
		{"To MaxStates - 1 of fewer states", machine(5, sends(0, 0, 5)), false},
		{"From MaxStates", machine(6, sends(6, 0, 0)), false},
		{"a bad move behind good ones", machine(2, sends(0, 0, 1), sends(0, 1, 1), sends(0, 2, 2)), false},
		{"a bad move before good ones", machine(2, sends(0, 6, 1), sends(0, 1, 1), sends(0, 2, 1)), false},
		{"the same move twice", machine(2, sends(0, 0, 1), sends(0, 0, 1)), false},
		{"the same From, Send and Msg", machine(2, sends(0, 0, 0), sends(0, 0, 1)), false},
		{"the same From, Send and Msg, received, not in a row", machine(2, receives(0, 0, 0), receives(0, 1, 0), receives(0, 0, 1)), false},
		{"the same From and Send", machine(2, sends(0, 0, 1), sends(0, 1, 1)), true},
		{"the same Send and Msg", machine(2, sends(0, 0, 1), sends(1, 0, 1)), true},
		{"the same From and Msg", machine(2, sends(0, 0, 1), receives(0, 0, 1)), false},
		{"the same Msg", machine(2, sends(0, 0, 1), receives(1, 0, 1)), true},
		{"both turns in the first state", machine(2, sends(0, 0, 1), receives(0, 1, 1)), false},
		{"both turns in the last state", machine(2, sends(0, 0, 1), receives(1, 0, 1), sends(1, 1, 1)), false},
		{"both turns, with a move between", machine(2, receives(1, 0, 0), sends(0, 0, 1), sends(1, 3, 0)), false},
		{"both turns by To alone", machine(2, sends(0, 0, 1), receives(1, 1, 0), receives(1, 2, 1)), true},
		{"the zero value", impl.Machine{}, false},
		{"moves without states", impl.Machine{Moves: []impl.Move{{}}}, false},
	}
	for _, c := range cases {
		checkValid(t, c.name, c.x, c.want)
		if isMachineOf(c.x) != c.want {
			t.Errorf("%s: the test's own answer is %v", c.name, !c.want)
		}
		checkMachine(t, c.name, c.x, machineLimits(), machineLimits())
	}
	for _, x := range someMachines() {
		checkValid(t, "some machine", x, true)
	}
	for _, x := range noMachines() {
		checkValid(t, "no machine", x, false)
		if isMachineOf(x) {
			t.Errorf("the test's own answer for %s is true", machineText(x))
		}
	}
}

// A machine that is valid is no longer so with any one fault.
func TestSpoiledMachines(t *testing.T) {
	machines := someMachines()
	for seed := range 60 {
		machines = append(machines, machineByChance(seed))
	}
	for _, x := range machines {
		eachSpoiled(x, func(name string, spoiled impl.Machine) {
			checkValid(t, name, spoiled, false)
			checkMachine(t, name, spoiled, bytesOf(-1, 0, 1, x.States, math.MaxInt), bytesOf(-1, 0, 5, 6, math.MinInt))
		})
	}
}

func TestMoveOf(t *testing.T) {
	full := greatest()
	// Not valid: the moves 0, 2 and 4 have the same From, Send and Msg.
	several := machine(2, sends(0, 1, 0), receives(0, 1, 1), sends(0, 1, 1), sends(1, 1, 0), sends(0, 1, 0), receives(0, 1, 0))
	beyond := machine(1, sends(math.MinInt, math.MaxInt, 3), receives(math.MaxInt, math.MinInt, -1), sends(-1, -1, -1), sends(math.MinInt, math.MaxInt, 4))
	cases := []struct {
		name  string
		x     impl.Machine
		state int
		send  bool
		msg   int
		want  int
	}{
		{"the first move", asker(), 0, true, 0, 0},
		{"a middle move", asker(), 1, false, 1, 1},
		{"the last move", asker(), 1, false, 2, 2},
		{"another state", asker(), 1, true, 0, -1},
		{"the other turn", asker(), 0, false, 0, -1},
		{"another message", asker(), 1, false, 0, -1},
		{"a state that neither sends nor receives, sending", asker(), 2, true, 0, -1},
		{"a state that neither sends nor receives, receiving", asker(), 2, false, 0, -1},
		{"the state -1", asker(), -1, true, 0, -1},
		{"the state States", asker(), 3, true, 0, -1},
		{"the least int as state", asker(), math.MinInt, true, 0, -1},
		{"the greatest int as state", asker(), math.MaxInt, true, 0, -1},
		{"the message -1", asker(), 0, true, -1, -1},
		{"the message MaxMsg + 1", asker(), 0, true, 6, -1},
		{"the least int as message", asker(), 1, false, math.MinInt, -1},
		{"the greatest int as message", asker(), 1, false, math.MaxInt, -1},
		{"the first of MaxMoves", full, 0, true, 5, 0},
		{"the last of MaxMoves", full, 5, false, 0, 11},
		{"without moves", machine(1), 0, true, 0, -1},
		{"of the zero value", impl.Machine{}, 0, false, 0, -1},
		{"the first of several", several, 0, true, 1, 0},
		{"the first of several, received", several, 0, false, 1, 1},
		{"one between several", several, 1, true, 1, 3},
		{"a move of no state", impl.Machine{Moves: []impl.Move{receives(0, 0, 0)}}, 0, false, 0, 0},
		{"a move in the spare capacity", machine(1, []impl.Move{sends(0, 0, 0), sends(0, 1, 0)}[:1]...), 0, true, 1, -1},
		{"ints beyond all limits", beyond, math.MinInt, true, math.MaxInt, 0},
		{"ints beyond all limits, received", beyond, math.MaxInt, false, math.MinInt, 1},
		{"-1 everywhere", beyond, -1, true, -1, 2},
		{"-1 received", beyond, -1, false, -1, -1},
		{"To does not count", beyond, 3, true, math.MaxInt, -1},
	}
	for _, c := range cases {
		checkMove(t, c.name, c.x, c.state, c.send, c.msg, c.want)
		if got := moveOf(c.x, c.state, c.send, c.msg); got != c.want {
			t.Errorf("%s: the test's own answer is %d", c.name, got)
		}
		checkMachine(t, c.name, c.x, machineLimits(), machineLimits())
	}
}

func TestMovesFrom(t *testing.T) {
	falling := machine(2, sends(0, 5, 1), sends(0, 3, 1), sends(1, 4, 0), sends(0, 0, 0), sends(0, 4, 1))
	// Not valid: messages more than once, both turns in one state, and other ints.
	several := machine(2, sends(0, 3, 0), sends(0, 1, 0), receives(0, 2, 0), sends(0, 3, 1), receives(0, 0, 0), sends(0, 1, 1), receives(0, 2, 1), sends(0, 3, 0))
	beyond := machine(1, sends(7, math.MaxInt, 0), sends(7, 0, 0), sends(7, math.MinInt, 0), sends(7, 6, 0), sends(7, -1, 0), sends(7, math.MinInt, 9), receives(-1, 9, 9), receives(math.MaxInt, 1, 0))
	cases := []struct {
		name  string
		x     impl.Machine
		state int
		send  bool
		want  []int
	}{
		{"one message", asker(), 0, true, bytesOf(0)},
		{"two messages", asker(), 1, false, bytesOf(1, 2)},
		{"what the state does not send", asker(), 1, true, nil},
		{"what the state does not receive", asker(), 0, false, nil},
		{"a state that neither sends nor receives, sending", asker(), 2, true, nil},
		{"a state that neither sends nor receives, receiving", asker(), 2, false, nil},
		{"the state -1", asker(), -1, true, nil},
		{"the state States", asker(), 3, true, nil},
		{"the least int", asker(), math.MinInt, false, nil},
		{"the greatest int", asker(), math.MaxInt, false, nil},
		{"without moves", machine(6), 0, true, nil},
		{"of the zero value", impl.Machine{}, 0, false, nil},
		{"of a falling list", falling, 0, true, bytesOf(0, 3, 4, 5)},
		{"of another state in it", falling, 1, true, bytesOf(4)},
		{"0 and MaxMsg", greatest(), 0, true, bytesOf(0, 5)},
		{"0 and MaxMsg received", greatest(), 5, false, bytesOf(0, 5)},
		{"each once", several, 0, true, bytesOf(1, 3)},
		{"each once, received", several, 0, false, bytesOf(0, 2)},
		{"ints beyond all limits", beyond, 7, true, bytesOf(math.MinInt, -1, 0, 6, math.MaxInt)},
		{"the state -1 of a move", beyond, -1, false, bytesOf(9)},
		{"the state MaxInt of a move", beyond, math.MaxInt, false, bytesOf(1)},
		{"To does not count", beyond, 9, true, nil},
		{"moves of no state", impl.Machine{Moves: []impl.Move{receives(0, 1, 0), receives(0, 0, 0)}}, 0, false, bytesOf(0, 1)},
		{"a move in the spare capacity", machine(1, []impl.Move{sends(0, 1, 0), sends(0, 0, 0)}[:1]...), 0, true, bytesOf(1)},
	}
	for _, c := range cases {
		checkMoves(t, c.name, c.x, c.state, c.send, c.want)
		if got := movesFrom(c.x, c.state, c.send); !slices.Equal(got, c.want) {
			t.Errorf("%s: the test's own answer is %v", c.name, got)
		}
		checkMachine(t, c.name, c.x, machineLimits(), machineLimits())
	}
}

// Every message that a state sends or receives ascends, and has a move; no other one has.
func TestMovesAreFound(t *testing.T) {
	machines := slices.Concat(someMachines(), noMachines())
	for seed := range 500 {
		machines = append(machines, machineByChance(seed))
	}
	for _, x := range machines {
		found := 0
		for state := -1; state <= 7; state++ {
			for _, send := range []bool{false, true} {
				l := impl.MovesFrom(x, state, send)
				for i, msg := range l {
					if i > 0 && l[i-1] >= msg {
						t.Errorf("MovesFrom(%s, %d, %v) is %v", machineText(x), state, send, l)
					}
					place := impl.MoveOf(x, state, send, msg)
					if place < 0 || x.Moves[place] != (impl.Move{From: state, Send: send, Msg: msg, To: x.Moves[place].To}) {
						t.Errorf("MoveOf(%s, %d, %v, %d) is %d", machineText(x), state, send, msg, place)
					}
				}
				for msg := -1; msg <= 6; msg++ {
					if there := impl.MoveOf(x, state, send, msg) >= 0; there != slices.Contains(l, msg) {
						t.Errorf("MovesFrom(%s, %d, %v) is %v, and it is %v that %d has a move", machineText(x), state, send, l, there, msg)
					}
				}
				found += len(l)
			}
		}
		if impl.IsMachine(x) && found != len(x.Moves) {
			t.Errorf("%s: %d moves are found", machineText(x), found)
		}
	}
}

func TestRunMachine(t *testing.T) {
	zeros := func(count int) []int { return make([]int, count) }
	turns := func(count int) []int { return slices.Repeat(bytesOf(0, -1), count/2+1)[:count] }
	circle := machine(2, sends(0, 0, 1), receives(1, 0, 0))
	loop := machine(1, sends(0, 0, 0), sends(0, 5, 0))
	chain := machine(6, sends(0, 0, 1), receives(1, 1, 2), sends(2, 2, 3), receives(3, 3, 4), sends(4, 4, 5))
	cases := []struct {
		name string
		x    impl.Machine
		word []int
		want int
	}{
		{"nil", asker(), nil, 0},
		{"empty", asker(), []int{}, 0},
		{"one move that sends", asker(), bytesOf(0), 1},
		{"a move that receives behind", asker(), bytesOf(0, -2), 2},
		{"back to the first state", asker(), bytesOf(0, -3), 0},
		{"around and to the end", asker(), bytesOf(0, -3, 0, -2), 2},
		{"no move at the first number", asker(), bytesOf(1), -1},
		{"no move at the first of several", asker(), bytesOf(1, -3, 0, -2), -1},
		{"the other turn at the first number", asker(), bytesOf(-1), -1},
		{"the other turn at the first number, then a move", asker(), bytesOf(-1, 0), -1},
		{"no move in the middle", asker(), bytesOf(0, -1, 0, -2), -1},
		{"no move in the middle, and then one of the same state", asker(), bytesOf(0, 5, -2), -1},
		{"the other turn in the middle", asker(), bytesOf(0, 2, 0), -1},
		{"no move at the last number", asker(), bytesOf(0, -3, 0, -1), -1},
		{"the other turn at the last number", asker(), bytesOf(0, -3, 0, 1), -1},
		{"on from a state that neither sends nor receives", asker(), bytesOf(0, -2, 0), -1},
		{"on from it by a message received", asker(), bytesOf(0, -2, -1), -1},
		{"along a chain", chain, bytesOf(0, -2, 2, -4, 4), 5},
		{"along most of a chain", chain, bytesOf(0, -2, 2, -4), 4},
		{"beyond the end of a chain", chain, bytesOf(0, -2, 2, -4, 4, 0), -1},
		{"20 numbers", loop, zeros(20), 0},
		{"21 numbers", loop, zeros(21), -1},
		{"19 numbers", loop, zeros(19), 0},
		{"20 numbers, the last without a move", loop, append(zeros(19), 1), -1},
		{"20 numbers, the first without a move", loop, append(bytesOf(1), zeros(19)...), -1},
		{"21 numbers, the first without a move", loop, append(bytesOf(1), zeros(20)...), -1},
		{"20 numbers in turn", circle, turns(20), 0},
		{"19 numbers in turn", circle, turns(19), 1},
		{"21 numbers in turn", circle, turns(21), -1},
		{"20 numbers before spare capacity", loop, zeros(40)[:20], 0},
		{"the message MaxMsg", loop, bytesOf(5, 0, 5), 0},
		{"the message MaxMsg received", machine(2, receives(0, 5, 1)), bytesOf(-6), 1},
		{"the message MaxMsg + 1", loop, bytesOf(6), -1},
		{"the message MaxMsg + 1 received", machine(2, receives(0, 5, 1)), bytesOf(-7), -1},
		{"the message 0 received", machine(2, receives(0, 0, 1)), bytesOf(-1), 1},
		{"the least int", machine(2, receives(0, 0, 1)), bytesOf(math.MinInt), -1},
		{"the greatest int", machine(2, sends(0, 5, 1)), bytesOf(math.MaxInt), -1},
		{"the least int in the middle", circle, bytesOf(0, math.MinInt, 0), -1},
		{"the greatest int at the end", circle, bytesOf(0, -1, math.MaxInt), -1},
		{"one state without moves", machine(1), nil, 0},
		{"one state without moves, one number", machine(1), bytesOf(0), -1},
		{"one state without moves, one number received", machine(1), bytesOf(-1), -1},
		{"MaxStates states without moves", machine(6), []int{}, 0},
		{"a first state without moves", machine(2, sends(1, 0, 0)), bytesOf(0), -1},
		{"around MaxStates states", greatest(), bytesOf(0, -1, 0, -1, 0, -1), 0},
		{"around MaxStates states the other way", greatest(), bytesOf(5, -6, 5, -6, 5), 1},
		{"the zero value", impl.Machine{}, nil, -1},
		{"the zero value with a move", impl.Machine{Moves: []impl.Move{{}}}, bytesOf(0), -1},
		{"not valid, no numbers", machine(7), nil, -1},
		{"not valid by Ends", impl.Machine{States: 2, Ends: make([]bool, 1), Moves: circle.Moves}, bytesOf(0), -1},
		{"not valid by a move that is not made", machine(2, sends(0, 0, 1), sends(1, 6, 0)), bytesOf(0), -1},
		{"not valid by two moves with the same key", machine(2, sends(0, 0, 1), sends(0, 0, 1)), bytesOf(0), -1},
		{"not valid by both turns", machine(2, sends(0, 0, 1), receives(0, 1, 1)), bytesOf(0), -1},
		{"not valid by a message that the word has", machine(2, sends(0, math.MaxInt, 1)), bytesOf(math.MaxInt), -1},
		{"not valid by a message received that the word has", machine(2, receives(0, math.MaxInt, 1)), bytesOf(math.MinInt), -1},
		{"not valid and 21 numbers", machine(7, sends(0, 0, 0)), zeros(21), -1},
	}
	for _, c := range cases {
		checkRun(t, c.name, c.x, c.word, c.want)
		if got := runOf(c.x, c.word); got != c.want {
			t.Errorf("%s: the test's own answer is %d", c.name, got)
		}
	}
}

// A word along the moves of a machine is run to its end, and none that leaves them at
// any place.
func TestRunsByChance(t *testing.T) {
	long := 0
	for seed := range 2000 {
		x := machineByChance(seed)
		checkMachine(t, "by chance", x, bytesOf(-1, 0, 1, 2, 3, 4, 5, 6), bytesOf(-7, -6, -3, -1, 0, 3, 5, 6))
		checkValid(t, "by chance", x, true)
		word := wordByChance(x, seed, 20)
		if len(word) == 20 {
			long++
			checkRun(t, "a word of 21 numbers", x, append(slices.Clone(word), word[0]), -1)
		}
		for size := range len(word) + 1 {
			if got := impl.RunMachine(x, word[:size]); got < 0 || got >= x.States {
				t.Errorf("RunMachine(%s, %v) is %d", machineText(x), word[:size], got)
			}
			checkRun(t, "the beginning of a word", x, word[:size], runOf(x, word[:size]))
		}
		for i := range word {
			for _, n := range bytesOf(^word[i], 6, -7, math.MinInt, math.MaxInt) {
				left := slices.Clone(word)
				left[i] = n
				checkRun(t, "a word that leaves the moves", x, left, -1)
			}
			other := slices.Clone(word)
			other[i] = chance(seed).IntN(14) - 7
			checkRun(t, "a word with another number", x, other, runOf(x, other))
		}
	}
	if long < 200 {
		t.Errorf("only %d words have 20 numbers", long)
	}
}

func TestDualOf(t *testing.T) {
	cases := []struct {
		name string
		x    impl.Machine
		want impl.Machine
	}{
		{"the asker", asker(), machine(3, receives(0, 0, 1), sends(1, 1, 2), sends(1, 2, 0))},
		{"one state without moves", machine(1), machine(1)},
		{"MaxStates states without moves", machine(6), machine(6)},
		{"one move", machine(1, sends(0, 5, 0)), machine(1, receives(0, 5, 0))},
		{"one move that receives", machine(1, receives(0, 5, 0)), machine(1, sends(0, 5, 0))},
		{"the zero value", impl.Machine{}, impl.Machine{}},
		{"empty lists", impl.Machine{Ends: []bool{}, Moves: []impl.Move{}}, impl.Machine{}},
		{"States alone", impl.Machine{States: math.MinInt}, impl.Machine{States: math.MinInt}},
		{"Ends alone", impl.Machine{Ends: []bool{true, false, true}}, impl.Machine{Ends: []bool{true, false, true}}},
		{"Moves alone", impl.Machine{Moves: []impl.Move{{}, sends(0, 0, 0)}}, impl.Machine{Moves: []impl.Move{sends(0, 0, 0), {}}}},
		{"both turns", machine(1, sends(0, 0, 0), receives(0, 0, 0)), machine(1, receives(0, 0, 0), sends(0, 0, 0))},
		{"the same move twice", machine(1, sends(0, 0, 0), sends(0, 0, 0)), machine(1, receives(0, 0, 0), receives(0, 0, 0))},
		{"ints beyond all limits", machine(2, sends(math.MinInt, math.MaxInt, -1)), machine(2, receives(math.MinInt, math.MaxInt, -1))},
		{"a move in the spare capacity", machine(1, []impl.Move{sends(0, 1, 0), sends(0, 0, 0)}[:1]...), machine(1, receives(0, 1, 0))},
	}
	for _, c := range cases {
		if got := impl.DualOf(c.x); !sameMachine(got, c.want) || !impl.EqualMachines(got, c.want) {
			t.Errorf("%s: DualOf(%s) is %s, not %s", c.name, machineText(c.x), machineText(got), machineText(c.want))
		}
		checkDual(t, c.name, c.x)
		checkDual(t, c.name, c.want)
	}
	for _, x := range slices.Concat(someMachines(), noMachines()) {
		checkMachine(t, "a machine", x, machineLimits(), machineLimits())
	}
	full := greatest()
	if d := impl.DualOf(full); impl.MoveOf(d, 0, false, 5) != 0 || impl.MoveOf(d, 5, true, 0) != 11 || impl.RunMachine(d, bytesOf(-1, 0, -1)) != 3 {
		t.Errorf("the dual of %s is %s", machineText(full), machineText(d))
	}
}

func TestEqualMachines(t *testing.T) {
	edits := []struct {
		name string
		edit func(x *impl.Machine)
	}{
		{"States", func(x *impl.Machine) { x.States = 4 }},
		{"States negative", func(x *impl.Machine) { x.States = -3 }},
		{"States modulo 2^32", func(x *impl.Machine) { x.States += 1 << 32 }},
		{"the first of Ends", func(x *impl.Machine) { x.Ends[0] = true }},
		{"a middle one of Ends", func(x *impl.Machine) { x.Ends[1] = true }},
		{"the last of Ends", func(x *impl.Machine) { x.Ends[2] = false }},
		{"fewer Ends", func(x *impl.Machine) { x.Ends = x.Ends[:2] }},
		{"more Ends", func(x *impl.Machine) { x.Ends = append(x.Ends, false) }},
		{"the order of Ends", func(x *impl.Machine) { slices.Reverse(x.Ends) }},
		{"nil Ends", func(x *impl.Machine) { x.Ends = nil }},
		{"empty Ends", func(x *impl.Machine) { x.Ends = []bool{} }},
		{"From", func(x *impl.Machine) { x.Moves[0].From = 1 }},
		{"Send", func(x *impl.Machine) { x.Moves[0].Send = false }},
		{"Msg", func(x *impl.Machine) { x.Moves[0].Msg = 1 }},
		{"To", func(x *impl.Machine) { x.Moves[0].To = 0 }},
		{"From of a middle move", func(x *impl.Machine) { x.Moves[1].From = math.MinInt }},
		{"Msg of a middle move", func(x *impl.Machine) { x.Moves[1].Msg = math.MaxInt }},
		{"Send of a middle move", func(x *impl.Machine) { x.Moves[1].Send = true }},
		{"To of a middle move", func(x *impl.Machine) { x.Moves[1].To = -1 }},
		{"From of the last move", func(x *impl.Machine) { x.Moves[2].From = 0 }},
		{"Send of the last move", func(x *impl.Machine) { x.Moves[2].Send = true }},
		{"Msg of the last move", func(x *impl.Machine) { x.Moves[2].Msg = 3 }},
		{"To of the last move", func(x *impl.Machine) { x.Moves[2].To = 1 << 32 }},
		{"the order of Moves", func(x *impl.Machine) { x.Moves[1], x.Moves[2] = x.Moves[2], x.Moves[1] }},
		{"fewer Moves", func(x *impl.Machine) { x.Moves = x.Moves[:2] }},
		{"more Moves", func(x *impl.Machine) { x.Moves = append(x.Moves, impl.Move{}) }},
		{"no Moves", func(x *impl.Machine) { x.Moves = nil }},
		{"empty Moves", func(x *impl.Machine) { x.Moves = []impl.Move{} }},
		{"all", func(x *impl.Machine) { *x = impl.Machine{} }},
	}
	for _, c := range edits {
		x, y := asker(), asker()
		if !impl.EqualMachines(x, y) {
			t.Errorf("%s: the machines are not equal before", c.name)
		}
		c.edit(&y)
		if impl.EqualMachines(x, y) || impl.EqualMachines(y, x) {
			t.Errorf("%s: EqualMachines(%s, %s) is true", c.name, machineText(x), machineText(y))
		}
		c.edit(&x)
		if !impl.EqualMachines(x, y) || !impl.EqualMachines(y, y) {
			t.Errorf("%s: EqualMachines(%s, %s) is false", c.name, machineText(x), machineText(y))
		}
	}
	empty, spare := impl.Machine{Ends: []bool{}, Moves: []impl.Move{}}, impl.Machine{Ends: make([]bool, 3)[:0], Moves: make([]impl.Move, 2)[:0]}
	for _, x := range []impl.Machine{{}, empty, spare, {Ends: []bool{}}, {Moves: []impl.Move{}}} {
		for _, y := range []impl.Machine{{}, empty, spare} {
			if !impl.EqualMachines(x, y) {
				t.Errorf("nil and empty lists are not equal")
			}
			y.States = 1
			if impl.EqualMachines(x, y) || impl.EqualMachines(y, x) {
				t.Errorf("0 and 1 state are equal")
			}
		}
	}
	all := slices.Concat(someMachines(), noMachines())
	for _, x := range all {
		for _, y := range all {
			if got := impl.EqualMachines(x, y); got != sameMachine(x, y) {
				t.Errorf("EqualMachines(%s, %s) is %v", machineText(x), machineText(y), got)
			}
		}
	}
}

// Every list of up to three moves of a few, so that each kind of fault and each kind of
// machine is among them.
func TestEveryShortListOfMoves(t *testing.T) {
	var alphabet, beyond []impl.Move
	for _, from := range bytesOf(0, 1) {
		for _, msg := range bytesOf(0, 5) {
			for _, to := range bytesOf(0, 1) {
				alphabet = append(alphabet, sends(from, msg, to), receives(from, msg, to))
			}
		}
	}
	for _, from := range bytesOf(-1, 1, 2) {
		for _, msg := range bytesOf(-1, 3, 6) {
			for _, to := range bytesOf(-1, 1, 2) {
				beyond = append(beyond, sends(from, msg, to), receives(from, msg, to))
			}
		}
	}
	valid := 0
	check := func(moves []impl.Move, most int) {
		places := make([]int, len(moves))
		for i := range places {
			places[i] = i
		}
		eachList(places, most, func(chosen []int) {
			x := machine(2)
			for _, i := range chosen {
				x.Moves = append(x.Moves, moves[i])
			}
			checkMachine(t, "a short list", x, bytesOf(0, 1, 2), bytesOf(-1, 0, 5))
			if impl.IsMachine(x) {
				valid++
			}
		})
	}
	check(alphabet, 3)
	// Beside a move, its own state has 2 more of the same turn with the other message, and
	// the other state has 8. A state with two moves has both messages.
	if want := 1 + 16 + 16*(2+8) + 16*(2*8+8*(2+2)); valid != want {
		t.Errorf("%d machines are valid, not %d", valid, want)
	}
	valid = 0
	check(beyond, 2)
	// Only From 1, Msg 3 and To 1 are in range, and no second move goes with such a one.
	if valid != 1+2 {
		t.Errorf("%d machines are valid", valid)
	}
}

// eachWithAnyInt calls use with valid machines and, of each, copies that have any int in
// one place.
func eachWithAnyInt(use func(x impl.Machine, changed impl.Machine, n int)) {
	for _, n := range machineLimits() {
		for _, x := range []impl.Machine{asker(), greatest(), machine(2, sends(1, 0, 1))} {
			for i := range x.Moves {
				for field := range 4 {
					y := impl.Machine{States: x.States, Ends: x.Ends, Moves: slices.Clone(x.Moves)}
					switch field {
					case 0:
						y.Moves[i].From = n
					case 1:
						y.Moves[i].Msg = n
					case 2:
						y.Moves[i].To = n
					case 3:
						y.States = n
					}
					use(x, y, n)
				}
			}
		}
	}
}

func TestMachinesWithAnyIntEverywhere(t *testing.T) {
	eachWithAnyInt(func(_ impl.Machine, changed impl.Machine, n int) {
		checkMachine(t, "any int", changed, bytesOf(0, 1, n), bytesOf(0, ^n, n))
	})
	for _, n := range machineLimits() {
		for _, x := range []impl.Machine{asker(), greatest(), machine(2, sends(1, 0, 1))} {
			for _, word := range [][]int{{n}, {0, n}, {n, 0}, {0, -2, n}, {0, n, 0}} {
				checkRun(t, "any int in a word", x, word, runOf(x, word))
			}
		}
	}
}

// Every word of up to four numbers.
func TestEveryShortWord(t *testing.T) {
	for _, x := range someMachines() {
		reached := 0
		eachList(bytesOf(math.MinInt, -7, -6, -3, -2, -1, 0, 1, 5, 6, math.MaxInt), 3, func(word []int) {
			checkRun(t, "a short word", x, word, runOf(x, word))
			if impl.RunMachine(x, word) >= 0 {
				reached++
			}
		})
		if reached == 0 {
			t.Errorf("%s: not even the empty word is run", machineText(x))
		}
	}
}

func TestManyMoves(t *testing.T) {
	const many = 100000
	var rising, falling, same []impl.Move
	for i := range many {
		rising, falling = append(rising, sends(0, i, 0)), append(falling, receives(i%3, many-i, i))
	}
	same = slices.Repeat([]impl.Move{sends(0, 0, 0)}, many)
	for _, moves := range [][]impl.Move{rising, falling, same} {
		x := machine(6, moves...)
		checkMachine(t, "many", x, bytesOf(0, 1, many), bytesOf(0, 1, many))
	}
	checkMoves(t, "many", machine(1, same...), 0, true, bytesOf(0))
	checkMove(t, "many", machine(1, rising...), 0, true, many-1, many-1)
	checkMove(t, "many", machine(1, append(rising, rising...)...), 0, true, many-1, many-1)
	checkValid(t, "many", impl.Machine{States: many, Ends: make([]bool, many)}, false)
	checkValid(t, "many", impl.Machine{States: 6, Ends: make([]bool, many)}, false)
	checkDual(t, "many", impl.Machine{States: many, Ends: make([]bool, many), Moves: rising})
	checkRun(t, "many", machine(1, sends(0, 0, 0)), make([]int, many), -1)
}

// markedMachine returns a copy of a machine with marks in the spare capacity of its lists.
func markedMachine(x impl.Machine) impl.Machine {
	return impl.Machine{
		States: x.States,
		Ends:   append(slices.Clone(x.Ends), true, false, true, true)[:len(x.Ends)],
		Moves:  append(slices.Clone(x.Moves), sends(77, 78, 79), receives(80, 81, 82), sends(0, 0, 0))[:len(x.Moves)],
	}
}

func memoryOfMachine(x impl.Machine) string {
	return fmt.Sprint(x.States, whole(x.Ends), whole(x.Moves))
}

func TestMachinesKeepArguments(t *testing.T) {
	for _, x := range slices.Concat(someMachines(), noMachines()) {
		x, y, word := markedMachine(x), markedMachine(x), markedBytes(bytesOf(0, -2, 0, 5, -6))
		before, otherBefore, wordBefore := memoryOfMachine(x), memoryOfMachine(y), slices.Clone(whole(word))
		impl.IsMachine(x)
		impl.DualOf(x)
		impl.EqualMachines(x, y)
		impl.EqualMachines(y, x)
		for size := range len(word) + 1 {
			impl.RunMachine(x, word[:size])
		}
		impl.RunMachine(x, whole(word))
		for _, state := range machineLimits() {
			for _, send := range []bool{false, true} {
				impl.MovesFrom(x, state, send)
				impl.MoveOf(x, state, send, state)
			}
		}
		if memoryOfMachine(x) != before || memoryOfMachine(y) != otherBefore || !slices.Equal(whole(word), wordBefore) {
			t.Errorf("the arguments are changed to %s, %s, %v", memoryOfMachine(x), memoryOfMachine(y), whole(word))
		}
	}
}

func TestMachinesShareNoMemory(t *testing.T) {
	for _, x := range slices.Concat(someMachines(), noMachines(), []impl.Machine{{Ends: []bool{}, Moves: []impl.Move{}}}) {
		x := markedMachine(x)
		ends, moves := [][]bool{whole(x.Ends)}, [][]impl.Move{whole(x.Moves)}
		var messages [][]int
		for range 2 {
			d := impl.DualOf(x)
			again := impl.DualOf(d)
			ends, moves = append(ends, whole(d.Ends), whole(again.Ends)), append(moves, whole(d.Moves), whole(again.Moves))
			for _, state := range bytesOf(0, 1, 5, -1) {
				messages = append(messages, whole(impl.MovesFrom(x, state, true)), whole(impl.MovesFrom(x, state, false)))
			}
		}
		checkAllApart(t, machineText(x), ends, func(end *bool) { *end = !*end })
		checkAllApart(t, machineText(x), moves, func(m *impl.Move) { m.To += 1000 })
		checkApart(t, machineText(x), messages)
	}
}

// The dual stays as it is when the machine is changed later, and the other way round.
func TestDualsAreCopies(t *testing.T) {
	for _, x := range append(someMachines(), noMachines()...) {
		x := markedMachine(x)
		before, want := memoryOfMachine(x), dualOf(x)
		for range 2 {
			d := impl.DualOf(x)
			if !sameMachine(d, want) {
				t.Errorf("DualOf(%s) is %s", machineText(x), machineText(d))
			}
			for i := range whole(d.Ends) {
				whole(d.Ends)[i] = !whole(d.Ends)[i]
			}
			clear(whole(d.Moves))
		}
		if memoryOfMachine(x) != before {
			t.Errorf("a dual writes into the argument: %s", memoryOfMachine(x))
		}
		d := impl.DualOf(x)
		clear(whole(x.Ends))
		clear(whole(x.Moves))
		if !sameMachine(d, want) {
			t.Errorf("the argument writes into its dual: %s", machineText(d))
		}
	}
}
