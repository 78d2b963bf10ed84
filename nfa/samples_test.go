package nfa_test

import (
	"math"
	"slices"
	"testing"

	"stileward/api"
	"stileward/sample"
)

// The automata that the tests of this package go through.

// move returns the move that leads from one state to another by a letter.
func move(from, letter, to int) api.Move { return api.Move{From: from, Letter: letter, To: to} }

// back accepts the words of 0 and 1 whose letter at some place, counted from the end, is 1.
// It can be in one more set of states for each set of that many letters.
func back(place int) api.Nfa {
	n := api.Nfa{Letters: 2, States: place + 1, Starts: []int{0}, Final: []int{place}}
	n.Moves = []api.Move{move(0, 0, 0), move(0, 1, 0), move(0, 1, 1)}
	for s := 1; s < place; s++ {
		n.Moves = append(n.Moves, move(s, 0, s+1), move(s, 1, s+1))
	}
	return n
}

// blocks accepts the words of 0 and 1 with no 0 behind a 1.
func blocks() api.Nfa {
	return api.Nfa{
		Letters: 2, States: 3, Starts: []int{0}, Final: []int{2},
		Moves: []api.Move{move(0, 0, 0), move(0, -1, 1), move(1, 1, 1), move(1, -1, 2)},
	}
}

// round has spontaneous moves that go round, and one from a state to itself. It accepts the words of one letter, which is 1.
func round() api.Nfa {
	return api.Nfa{
		Letters: 2, States: 5, Starts: []int{1}, Final: []int{4, 4},
		Moves: []api.Move{move(0, -1, 1), move(1, -1, 2), move(2, -1, 0), move(0, 1, 3), move(3, -1, 4), move(4, -1, 4)},
	}
}

// chain leads through some states by one letter (or spontaneously), from the first one to the last one.
func chain(states, letter int) api.Nfa {
	n := api.Nfa{Letters: 1, States: states, Starts: []int{0}, Final: []int{states - 1}}
	for s := range states - 1 {
		n.Moves = append(n.Moves, move(s, letter, s+1))
	}
	return n
}

// together goes through two automata of one alphabet at once, and accepts what one of them does.
func together(a, b api.Dfa) api.Nfa {
	n, other := ofSlowly(a), ofSlowly(b)
	for _, s := range other.Starts {
		n.Starts = append(n.Starts, n.States+s)
	}
	for _, m := range other.Moves {
		n.Moves = append(n.Moves, move(n.States+m.From, m.Letter, n.States+m.To))
	}
	for _, s := range other.Final {
		n.Final = append(n.Final, n.States+s)
	}
	n.States += other.States
	return n
}

// mixed returns an automaton without any order in it, with some moves, starts and final
// states, of which several may be the same.
func mixed(seed uint64, states, letters, moves int) api.Nfa {
	below := sample.Below(seed)
	n := api.Nfa{Letters: letters, States: states}
	for range moves {
		from, letter, to := below(states), below(letters+1)-1, below(states)
		n.Moves = append(n.Moves, move(from, letter, to))
	}
	for range below(3) {
		n.Starts = append(n.Starts, below(states))
	}
	for range below(states + 2) {
		n.Final = append(n.Final, below(states))
	}
	return n
}

// crowded returns an automaton of 40 states and 6 letters with as many moves, starts and final states as may be.
func crowded() api.Nfa {
	n := mixed(5, 40, 6, 240)
	n.Starts, n.Final = nil, nil
	for i := range 40 {
		n.Starts, n.Final = append(n.Starts, 39-i), append(n.Final, i/2)
	}
	return n
}

// smallNfas returns automata of some states and letters without a move, start or final state
// twice: all of them, or every few ones.
func smallNfas(states, letters, step int) []api.Nfa {
	moves := states * states * (letters + 1)
	var all []api.Nfa
	for number := 0; number < 1<<(moves+2*states); number += step {
		isIn := func(bit int) bool { return number>>bit&1 == 1 }
		n := api.Nfa{Letters: letters, States: states}
		for s := range states {
			if isIn(s) {
				n.Starts = append(n.Starts, s)
			}
			if isIn(states + s) {
				n.Final = append(n.Final, s)
			}
		}
		for i := range moves {
			if isIn(2*states + i) {
				n.Moves = append(n.Moves, move(i%states, i/states/states-1, i/states%states))
			}
		}
		all = append(all, n)
	}
	return all
}

// textual returns an automaton whose lists follow each other in texts, as those of sample.Word.
func textual(letters, states int, starts, moves, finals string) api.Nfa {
	n := api.Nfa{Letters: letters, States: states, Starts: sample.Word(starts), Final: sample.Word(finals)}
	for numbers := range slices.Chunk(sample.Word(moves), 3) {
		if len(numbers) == 3 {
			n.Moves = append(n.Moves, move(numbers[0], numbers[1], numbers[2]))
		}
	}
	return n
}

// changed returns an automaton behind a change of it.
func changed(n api.Nfa, change func(n *api.Nfa)) api.Nfa {
	change(&n)
	return n
}

// nfaCheck is an automaton, and the error of Check for it.
type nfaCheck struct {
	name string
	nfa  api.Nfa
	want api.Errno
}

// nfaChecks are automata with and without errors.
func nfaChecks() []nfaCheck {
	return slices.Concat(goodNfas(), badNumbers(), badLengths(), badStates(), badMoves())
}

// goodNfas have no error.
func goodNfas() []nfaCheck {
	return []nfaCheck{
		{"nothing but a state", api.Nfa{Letters: 1, States: 1}, api.OK},
		{"empty lists", api.Nfa{Letters: 6, States: 40, Starts: []int{}, Moves: []api.Move{}, Final: []int{}}, api.OK},
		{"a start", api.Nfa{Letters: 1, States: 1, Starts: []int{0}}, api.OK},
		{"a final state", api.Nfa{Letters: 1, States: 1, Final: []int{0}}, api.OK},
		{"a move", api.Nfa{Letters: 1, States: 1, Moves: []api.Move{move(0, 0, 0)}}, api.OK},
		{"a spontaneous move", api.Nfa{Letters: 1, States: 1, Moves: []api.Move{move(0, -1, 0)}}, api.OK},
		{"the third from the end", back(3), api.OK},
		{"blocks", blocks(), api.OK},
		{"round", round(), api.OK},
		{"39 states", chain(39, 0), api.OK},
		{"40 states", chain(40, 0), api.OK},
		{"40 starts", changed(blocks(), func(n *api.Nfa) { n.Starts = sample.Repeated(40, 2) }), api.OK},
		{"40 final states", changed(blocks(), func(n *api.Nfa) { n.Final = sample.Repeated(40, 0) }), api.OK},
		{"240 moves", changed(blocks(), func(n *api.Nfa) { n.Moves = times(240, move(2, 1, 2)) }), api.OK},
		{"no order", mixed(3, 5, 2, 12), api.OK},
		{"as much as may be", crowded(), api.OK},
	}
}

// times returns a list of n times one move.
func times(n int, m api.Move) []api.Move { return slices.Repeat([]api.Move{m}, n) }

// badNumbers have an error in Letters or States, and some of them others as well.
func badNumbers() []nfaCheck {
	var checks []nfaCheck
	for _, number := range []int{math.MinInt, -1 << 32, -256, -1, 0, 41, 256, 257, 1<<32 + 1, math.MaxInt} {
		checks = append(checks,
			nfaCheck{"letters", changed(blocks(), func(n *api.Nfa) { n.Letters = number }), api.ErrRange},
			nfaCheck{"states", changed(blocks(), func(n *api.Nfa) { n.States = number }), api.ErrRange},
			nfaCheck{"letters of nothing", api.Nfa{Letters: number, States: 1}, api.ErrRange},
			nfaCheck{"states of nothing", api.Nfa{Letters: 1, States: number}, api.ErrRange},
		)
	}
	return append(checks,
		nfaCheck{"nothing", api.Nfa{}, api.ErrRange},
		nfaCheck{"alphabet of 7", changed(back(3), func(n *api.Nfa) { n.Letters = 7 }), api.ErrRange},
		nfaCheck{"41 states", chain(41, 0), api.ErrRange},
		nfaCheck{"alphabet of 7 of 41 starts", changed(back(3), func(n *api.Nfa) {
			n.Letters, n.Starts = 7, sample.Repeated(41, 0)
		}), api.ErrRange},
		nfaCheck{"no alphabet of 241 moves", changed(back(3), func(n *api.Nfa) {
			n.Letters, n.Moves = 0, times(241, api.Move{})
		}), api.ErrRange},
		nfaCheck{"no state, and 41 final ones", changed(back(3), func(n *api.Nfa) {
			n.States, n.Final = 0, sample.Repeated(41, 0)
		}), api.ErrRange},
		nfaCheck{"41 states, and 41 starts", changed(chain(41, 0), func(n *api.Nfa) {
			n.Starts = sample.Repeated(41, 40)
		}), api.ErrRange},
	)
}

// badLengths have too long lists, and some of them other errors as well.
func badLengths() []nfaCheck {
	return []nfaCheck{
		{"41 starts", changed(blocks(), func(n *api.Nfa) { n.Starts = sample.Repeated(41, 2) }), api.ErrFull},
		{"41 starts of 40 states", changed(crowded(), func(n *api.Nfa) { n.Starts = append(n.Starts, 0) }), api.ErrFull},
		{"296 starts", changed(blocks(), func(n *api.Nfa) { n.Starts = sample.Repeated(296, 2) }), api.ErrFull},
		{"41 final states", changed(blocks(), func(n *api.Nfa) { n.Final = sample.Repeated(41, 0) }), api.ErrFull},
		{"41 final states of 40", changed(crowded(), func(n *api.Nfa) { n.Final = append(n.Final, 0) }), api.ErrFull},
		{"296 final states", changed(blocks(), func(n *api.Nfa) { n.Final = sample.Repeated(296, 0) }), api.ErrFull},
		{"241 moves", changed(blocks(), func(n *api.Nfa) { n.Moves = times(241, move(2, 1, 2)) }), api.ErrFull},
		{"241 moves of all letters", changed(crowded(), func(n *api.Nfa) { n.Moves = append(n.Moves, api.Move{}) }), api.ErrFull},
		{"496 moves", changed(blocks(), func(n *api.Nfa) { n.Moves = times(496, api.Move{}) }), api.ErrFull},
		{"41 starts that are none", changed(blocks(), func(n *api.Nfa) { n.Starts = sample.Repeated(41, 3) }), api.ErrFull},
		{"41 final states that are none", changed(blocks(), func(n *api.Nfa) { n.Final = sample.Repeated(41, -1) }), api.ErrFull},
		{"241 moves that are none", changed(blocks(), func(n *api.Nfa) { n.Moves = times(241, move(0, 2, 0)) }), api.ErrFull},
		{"41 final states, and a start that is none", changed(blocks(), func(n *api.Nfa) {
			n.Starts, n.Final = []int{3}, sample.Repeated(41, 0)
		}), api.ErrFull},
		{"241 moves, and a start that is none", changed(blocks(), func(n *api.Nfa) {
			n.Starts, n.Moves = []int{-1}, times(241, api.Move{})
		}), api.ErrFull},
		{"241 moves, and a final state that is none", changed(blocks(), func(n *api.Nfa) {
			n.Final, n.Moves = []int{3}, times(241, api.Move{})
		}), api.ErrFull},
	}
}

// badStates have starts and final states that are none.
func badStates() []nfaCheck {
	var checks []nfaCheck
	for _, number := range []int{math.MinInt, -1 << 32, -1, 3, 39, 40, 64, 1 << 32, math.MaxInt} {
		for _, list := range [][]int{{number}, {number, 0}, {2, number}, sample.Replaced(sample.Repeated(40, 1), 39, number)} {
			checks = append(checks,
				nfaCheck{"a start", changed(blocks(), func(n *api.Nfa) { n.Starts = list }), api.ErrRange},
				nfaCheck{"a final state", changed(blocks(), func(n *api.Nfa) { n.Final = list }), api.ErrRange},
			)
		}
	}
	return append(checks,
		nfaCheck{"start 40 of 40", changed(crowded(), func(n *api.Nfa) { n.Starts = []int{40} }), api.ErrRange},
		nfaCheck{"final state 40 of 40", changed(crowded(), func(n *api.Nfa) { n.Final = []int{40} }), api.ErrRange},
		nfaCheck{"start 1 of 1", api.Nfa{Letters: 1, States: 1, Starts: []int{1}}, api.ErrRange},
		nfaCheck{"final state 1 of 1", api.Nfa{Letters: 1, States: 1, Final: []int{1}}, api.ErrRange},
	)
}

// badMoves have moves that are none.
func badMoves() []nfaCheck {
	var checks []nfaCheck
	add := func(m api.Move) {
		for _, list := range [][]api.Move{{m}, {m, {}}, {{}, m}, append(times(239, api.Move{}), m)} {
			checks = append(checks, nfaCheck{"a move", changed(blocks(), func(n *api.Nfa) { n.Moves = list }), api.ErrRange})
		}
	}
	for _, number := range []int{math.MinInt, -1 << 32, -2, 3, 40, 64, 1 << 32, math.MaxInt} {
		add(move(number, 0, 0))
		add(move(0, number, 0))
		add(move(0, 0, number))
	}
	add(move(-1, 0, 0))
	add(move(0, 0, -1))
	add(move(0, 2, 0))
	add(move(2, -2, 2))
	return append(checks,
		nfaCheck{"from 40 of 40", changed(crowded(), func(n *api.Nfa) { n.Moves = []api.Move{move(40, 0, 0)} }), api.ErrRange},
		nfaCheck{"to 40 of 40", changed(crowded(), func(n *api.Nfa) { n.Moves = []api.Move{move(0, 0, 40)} }), api.ErrRange},
		nfaCheck{"letter 6 of 6", changed(crowded(), func(n *api.Nfa) { n.Moves = []api.Move{move(0, 6, 0)} }), api.ErrRange},
		nfaCheck{"letter 1 of 1", api.Nfa{Letters: 1, States: 1, Moves: []api.Move{move(0, 1, 0)}}, api.ErrRange},
	)
}

// longNfas have errors of Check, and lists that are long in one place or another.
func longNfas() []nfaCheck {
	const long = 1 << 24
	return []nfaCheck{
		{"long list of starts", changed(blocks(), func(n *api.Nfa) { n.Starts = make([]int, long) }), api.ErrFull},
		{"long list of final states", changed(blocks(), func(n *api.Nfa) { n.Final = make([]int, long) }), api.ErrFull},
		{"long list of moves", changed(blocks(), func(n *api.Nfa) { n.Moves = make([]api.Move, long) }), api.ErrFull},
		{"long list of starts without states", api.Nfa{Letters: 1, Starts: make([]int, long)}, api.ErrRange},
	}
}

// cloneNfa returns the same automaton in memory of its own.
func cloneNfa(n api.Nfa) api.Nfa {
	n.Starts, n.Moves, n.Final = slices.Clone(n.Starts), slices.Clone(n.Moves), slices.Clone(n.Final)
	return n
}

// equalNfas tells whether two automata have the same states, and the same lists in the same order.
func equalNfas(a, b api.Nfa) bool {
	return a.Letters == b.Letters && a.States == b.States &&
		slices.Equal(a.Starts, b.Starts) && slices.Equal(a.Moves, b.Moves) && slices.Equal(a.Final, b.Final)
}

// roomyNfa returns an automaton with memory behind all its ends, and a function that
// tells whether the automaton and that memory are still as they were.
func roomyNfa(n api.Nfa) (api.Nfa, func() bool) {
	starts, intactStarts := sample.Roomy(n.Starts)
	finals, intactFinals := sample.Roomy(n.Final)
	moves := append(slices.Clone(n.Moves), times(9, api.Move{})...)
	before := slices.Clone(moves)
	n.Starts, n.Moves, n.Final = starts, moves[:len(n.Moves)], finals
	return n, func() bool { return intactStarts() && intactFinals() && slices.Equal(moves, before) }
}

// spoilNfa writes numbers that are no states over all lists of an automaton and the
// memory behind their ends. The function that it returns tells whether they are all still
// there: not if two of its lists share memory, or if what shares memory with it is spoilt
// with other numbers.
func spoilNfa(n api.Nfa, number int) func() bool {
	starts, moves, finals := n.Starts[:cap(n.Starts)], n.Moves[:cap(n.Moves)], n.Final[:cap(n.Final)]
	sample.Fill(starts, number)
	sample.Fill(finals, number-1)
	for i := range moves {
		moves[i].From = number
	}
	return func() bool {
		isOther := func(found int) bool { return found != number }
		isOtherMove := func(m api.Move) bool { return m.From != number }
		isOtherFinal := func(found int) bool { return found != number-1 }
		return !slices.ContainsFunc(starts, isOther) && !slices.ContainsFunc(moves, isOtherMove) &&
			!slices.ContainsFunc(finals, isOtherFinal)
	}
}

// The automata are what their comments say, which the tests of this package need.
func TestSamples(t *testing.T) {
	found := map[api.Errno]int{}
	for _, c := range slices.Concat(nfaChecks(), longNfas()) {
		found[c.want]++
		if wrong := wrongOf(c.nfa); wrong != c.want {
			t.Errorf("%s: %v has %v, want %v", c.name, c.nfa, wrong, c.want)
		}
	}
	if len(found) != 3 || found[api.OK] == 0 || found[api.ErrRange] == 0 || found[api.ErrFull] == 0 {
		t.Errorf("the automata have these errors: %v", found)
	}
	for _, c := range []struct{ states, letters, want int }{{1, 1, 16}, {1, 6, 512}, {2, 1, 4096}} {
		all := smallNfas(c.states, c.letters, 1)
		if len(all) != c.want || wrongOf(all[len(all)-1]) != api.OK {
			t.Errorf("there are %d small automata of %d states and %d letters", len(all), c.states, c.letters)
		}
	}
	if n := crowded(); len(n.Starts) != 40 || len(n.Final) != 40 || len(n.Moves) != 240 {
		t.Errorf("crowded has %d starts, %d final states and %d moves", len(n.Starts), len(n.Final), len(n.Moves))
	}
}
