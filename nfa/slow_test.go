package nfa_test

import (
	"maps"
	"slices"

	"stileward/api"
	"stileward/plain"
	"stileward/word"
)

// What is here follows the words of chapter 9 one by one, without the package it tests.

// wrongOf follows the words of the errors of Check.
func wrongOf(n api.Nfa) api.Errno {
	isNone := func(s int) bool { return s < 0 || s >= n.States }
	isWrong := func(m api.Move) bool {
		return isNone(m.From) || isNone(m.To) || m.Letter < -1 || m.Letter > n.Letters-1
	}
	switch {
	case n.Letters < 1 || n.Letters > 6 || n.States < 1 || n.States > 40:
		return api.ErrRange
	case len(n.Starts) > 40 || len(n.Final) > 40 || len(n.Moves) > 240:
		return api.ErrFull
	case slices.ContainsFunc(slices.Concat(n.Starts, n.Final), isNone):
		return api.ErrRange
	case slices.ContainsFunc(n.Moves, isWrong):
		return api.ErrRange
	}
	return api.OK
}

// acceptsWrongOf follows the words of the errors of Accepts.
func acceptsWrongOf(n api.Nfa, w []int) api.Errno {
	if wrong := wrongOf(n); wrong != api.OK {
		return wrong
	}
	return plain.Told(word.Check(n.Letters, w))
}

// place is where an automaton can be: in a state, behind some letters of a word.
type place struct{ state, letters int }

// behind returns the states, rising, in which an automaton can be behind a word. Each
// move is tried at each known place again and again until none is new.
func behind(n api.Nfa, w []int) []int {
	known := map[place]bool{}
	for _, s := range n.Starts {
		known[place{s, 0}] = true
	}
	for before := -1; before < len(known); {
		before = len(known)
		for _, p := range slices.Collect(maps.Keys(known)) {
			for _, m := range n.Moves {
				if m.From == p.state && m.Letter == -1 {
					known[place{m.To, p.letters}] = true
				}
				if m.From == p.state && p.letters < len(w) && m.Letter == w[p.letters] {
					known[place{m.To, p.letters + 1}] = true
				}
			}
		}
	}
	var states []int
	for s := range n.States {
		if known[place{s, len(w)}] {
			states = append(states, s)
		}
	}
	return states
}

// isFinal tells whether a set of states contains a state of Final.
func isFinal(n api.Nfa, states []int) bool {
	return slices.ContainsFunc(states, func(s int) bool { return slices.Contains(n.Final, s) })
}

// makeSlowly follows the words of Make, with lists for its sets.
func makeSlowly(n api.Nfa) (api.Dfa, api.Errno) {
	if wrong := wrongOf(n); wrong != api.OK {
		return api.Dfa{}, wrong
	}
	sets := [][]int{behind(n, nil)}
	d := api.Dfa{Letters: n.Letters}
	for s := 0; s < len(sets); s++ {
		row := make([]int, n.Letters)
		for letter := range row {
			from := n
			from.Starts = sets[s]
			to := behind(from, []int{letter})
			row[letter] = slices.IndexFunc(sets, func(set []int) bool { return slices.Equal(set, to) })
			if row[letter] < 0 {
				row[letter] = len(sets)
				sets = append(sets, to)
			}
			if len(sets) > 40 {
				return api.Dfa{}, api.ErrFull
			}
		}
		d.Next = append(d.Next, row)
		d.Final = append(d.Final, isFinal(n, sets[s]))
	}
	return d, api.OK
}

// makeOfWords makes the automaton of the subset construction from all words up to a
// length. Sets that are found in the order of the states and of their letters are found
// in the order of the words: the shorter ones first, and those of one length by their letters.
func makeOfWords(n api.Nfa, words [][]int) api.Dfa {
	var sets, first [][]int
	number := func(set []int) int {
		return slices.IndexFunc(sets, func(known []int) bool { return slices.Equal(known, set) })
	}
	for _, w := range words {
		if set := behind(n, w); number(set) < 0 {
			sets, first = append(sets, set), append(first, w)
		}
	}
	d := api.Dfa{Letters: n.Letters}
	for s, w := range first {
		var row []int
		for letter := range n.Letters {
			row = append(row, number(behind(n, append(slices.Clone(w), letter))))
		}
		d.Next = append(d.Next, row)
		d.Final = append(d.Final, isFinal(n, sets[s]))
	}
	return d
}

// mirrorSlowly follows the words of Mirror.
func mirrorSlowly(n api.Nfa) api.Nfa {
	n = cloneNfa(n)
	n.Starts, n.Final = n.Final, n.Starts
	for i, m := range n.Moves {
		n.Moves[i].From, n.Moves[i].To = m.To, m.From
	}
	return n
}

// ofSlowly follows the words of Of.
func ofSlowly(d api.Dfa) api.Nfa {
	n := api.Nfa{Letters: d.Letters, States: len(d.Next), Starts: []int{d.Start}}
	for i := range n.States * n.Letters {
		s, letter := i/n.Letters, i%n.Letters
		n.Moves = append(n.Moves, move(s, letter, d.Next[s][letter]))
	}
	for s := range n.States {
		if d.Final[s] {
			n.Final = append(n.Final, s)
		}
	}
	return n
}
