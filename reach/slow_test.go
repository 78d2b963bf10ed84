package reach_test

import (
	"maps"
	"slices"

	"stileward/api"
	"stileward/dfa"
	"stileward/plain"
	"stileward/sample"
)

// What is here follows the words of chapter 7 one by one, without the package it tests.

// answers are what the five functions say of an automaton, and what is wrong for each of them.
type answers struct {
	reached, alive, first []int
	trimmed               api.Dfa
	count                 int

	// wrong is for Reached, Alive and Trim, which have the same errors.
	wrong, noFirst, noCount api.Errno
}

// slowly returns the answers for an automaton, be it one or not.
func slowly(d api.Dfa, n int) answers {
	wrong := plain.Told(dfa.Check(d))
	a := answers{wrong: wrong, noFirst: wrong, noCount: wrong}
	if wrong != api.OK {
		return a
	}
	a.reached, a.alive = reachedSlowly(d), aliveSlowly(d)
	if slices.Contains(a.alive, d.Start) {
		a.first = firstSlowly(d)
	} else {
		a.noFirst = api.ErrNone
	}
	// The pairs of the product of an automaton and itself are its reached states,
	// twice each, which 6.3 numbers as 7.2 does.
	a.trimmed, _ = dfa.Both(d, d)
	if n >= 0 && n <= 20 {
		a.count = countSlowly(d, d.Start, n, map[[2]int]int{})
	} else {
		a.noCount = api.ErrRange
	}
	return a
}

// reachedSlowly tries each letter at each known state again and again until none is new.
func reachedSlowly(d api.Dfa) []int {
	known := map[int]bool{d.Start: true}
	for before := 0; before < len(known); {
		before = len(known)
		for _, s := range slices.Sorted(maps.Keys(known)) {
			for _, to := range d.Next[s] {
				known[to] = true
			}
		}
	}
	return slices.Sorted(maps.Keys(known))
}

// far is more letters than any state needs to come to a final one.
const far = 1000

// lettersToFinal returns for each state how many letters lead from there to a
// final state at the least, or at least far if none do.
func lettersToFinal(d api.Dfa) []int {
	least := sample.Repeated(len(d.Next), far)
	for range d.Next {
		for s, row := range d.Next {
			if d.Final[s] {
				least[s] = 0
			}
			for _, to := range row {
				least[s] = min(least[s], least[to]+1)
			}
		}
	}
	return least
}

// aliveSlowly returns the states from which some letters lead to a final one.
func aliveSlowly(d api.Dfa) []int {
	var alive []int
	for s, least := range lettersToFinal(d) {
		if least < far {
			alive = append(alive, s)
		}
	}
	return alive
}

// firstSlowly takes the smallest letter that leads nearer to a final state, as
// long as it is at none.
func firstSlowly(d api.Dfa) []int {
	least := lettersToFinal(d)
	var w []int
	for s := d.Start; !d.Final[s]; {
		letter := slices.IndexFunc(d.Next[s], func(to int) bool { return least[to] < least[s] })
		w = append(w, letter)
		s = d.Next[s][letter]
	}
	return w
}

// countSlowly returns how many words of n letters lead from a state to a final
// one: those behind each of its letters.
func countSlowly(d api.Dfa, s, n int, known map[[2]int]int) int {
	if n == 0 && d.Final[s] {
		return 1
	}
	if n == 0 {
		return 0
	}
	if _, is := known[[2]int{s, n}]; !is {
		count := 0
		for _, to := range d.Next[s] {
			count += countSlowly(d, to, n-1, known)
		}
		known[[2]int{s, n}] = count
	}
	return known[[2]int{s, n}]
}

// fromWords returns the answers for an automaton without errors as all words up to
// a length say them, which is at least one less than the number of its states and n.
func fromWords(d api.Dfa, n int, words [][]int) answers {
	behind := func(from int, w []int) int {
		s, _ := dfa.Run(d, from, w)
		return s
	}
	var a answers
	for s := range d.Next {
		if slices.ContainsFunc(words, func(w []int) bool { return behind(d.Start, w) == s }) {
			a.reached = append(a.reached, s)
		}
		if slices.ContainsFunc(words, func(w []int) bool { return d.Final[behind(s, w)] }) {
			a.alive = append(a.alive, s)
		}
	}
	accepted := slices.DeleteFunc(slices.Clone(words), func(w []int) bool { return !d.Final[behind(d.Start, w)] })
	if len(accepted) == 0 {
		a.noFirst = api.ErrNone
	} else {
		a.first = accepted[0]
	}
	for _, w := range accepted {
		if len(w) == n {
			a.count++
		}
	}
	a.trimmed = trimmedByWords(d, words, behind)
	return a
}

// trimmedByWords numbers the states by the first words that lead to them. States
// that are found in the order of the states and of their letters are found in the
// order of the words: the shorter ones first, and those of one length by their letters.
func trimmedByWords(d api.Dfa, words [][]int, behind func(from int, w []int) int) api.Dfa {
	var found []int
	for _, w := range words {
		if s := behind(d.Start, w); !slices.Contains(found, s) {
			found = append(found, s)
		}
	}
	trimmed := api.Dfa{Letters: d.Letters}
	for _, s := range found {
		var row []int
		for letter := range d.Letters {
			row = append(row, slices.Index(found, behind(s, []int{letter})))
		}
		trimmed.Next = append(trimmed.Next, row)
		trimmed.Final = append(trimmed.Final, d.Final[s])
	}
	return trimmed
}
