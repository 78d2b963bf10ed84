package dfa_test

import (
	"slices"

	"stileward/api"
	"stileward/plain"
	"stileward/sample"
	"stileward/word"
)

// What is here follows the words of chapter 6 one by one, without the package it tests.

// wrongOf follows the words of the errors of Check.
func wrongOf(d api.Dfa) api.Errno {
	states := len(d.Next)
	isNone := func(s int) bool { return s < 0 || s >= states }
	switch {
	case d.Letters < 1 || d.Letters > 6:
		return api.ErrRange
	case states > 40:
		return api.ErrFull
	case states == 0 || len(d.Final) != states:
		return api.ErrShape
	case slices.ContainsFunc(d.Next, func(row []int) bool { return len(row) != d.Letters }):
		return api.ErrShape
	case isNone(d.Start) || slices.ContainsFunc(slices.Concat(d.Next...), isNone):
		return api.ErrRange
	}
	return api.OK
}

// wrongOfBoth follows the words of the errors of the products, but for the last one.
func wrongOfBoth(a, b api.Dfa) api.Errno {
	if wrong := wrongOf(a); wrong != api.OK {
		return wrong
	}
	if wrong := wrongOf(b); wrong != api.OK {
		return wrong
	}
	if a.Letters != b.Letters {
		return api.ErrShape
	}
	return api.OK
}

// runSlowly returns the state behind a word: that behind its last letter, from the one behind those before it.
func runSlowly(d api.Dfa, from int, w []int) int {
	if len(w) == 0 {
		return from
	}
	before := w[:len(w)-1]
	return d.Next[runSlowly(d, from, before)][w[len(before)]]
}

// runWrongOf follows the words of the errors of Run.
func runWrongOf(d api.Dfa, from int, w []int) api.Errno {
	if wrong := acceptsWrongOf(d, w); wrong != api.OK {
		return wrong
	}
	if from < 0 || from >= len(d.Next) {
		return api.ErrRange
	}
	return api.OK
}

// acceptsWrongOf follows the words of the errors of Accepts.
func acceptsWrongOf(d api.Dfa, w []int) api.Errno {
	if wrong := wrongOf(d); wrong != api.OK {
		return wrong
	}
	return plain.Told(word.Check(d.Letters, w))
}

// states is a pair of states of two automata.
type states struct{ a, b int }

// isFinal follows the words of the final pairs of the three products.
var isFinal = []func(inA, inB bool) bool{
	func(inA, inB bool) bool { return inA && inB },
	func(inA, inB bool) bool { return inA || inB },
	func(inA, inB bool) bool { return inA && !inB },
}

// pairsOf counts the pairs that words lead to, as each letter is tried at each
// known pair again and again until none is new.
func pairsOf(a, b api.Dfa) int {
	known := map[states]bool{{a.Start, b.Start}: true}
	for before := 0; before < len(known); {
		before = len(known)
		found := []states{}
		for p := range known {
			for letter := range a.Letters {
				found = append(found, states{a.Next[p.a][letter], b.Next[p.b][letter]})
			}
		}
		for _, p := range found {
			known[p] = true
		}
	}
	return len(known)
}

// productOfWords makes a product from all words up to a length. Pairs that are
// found in the order of the states and of their letters are found in the order
// of the words: the shorter ones first, and those of one length by their letters.
func productOfWords(a, b api.Dfa, words [][]int, final func(inA, inB bool) bool) api.Dfa {
	behind := func(w []int) states { return states{runSlowly(a, a.Start, w), runSlowly(b, b.Start, w)} }
	numbers := map[states]int{}
	var first [][]int
	for _, w := range words {
		if _, known := numbers[behind(w)]; !known {
			numbers[behind(w)] = len(first)
			first = append(first, w)
		}
	}
	product := api.Dfa{Letters: a.Letters}
	for _, w := range first {
		var row []int
		for letter := range a.Letters {
			row = append(row, numbers[behind(append(slices.Clone(w), letter))])
		}
		product.Next = append(product.Next, row)
		product.Final = append(product.Final, final(a.Final[behind(w).a], b.Final[behind(w).b]))
	}
	return product
}

// isProduct tells whether an automaton is a product, as its states and letters are gone through in order.
func isProduct(d, a, b api.Dfa, final func(inA, inB bool) bool) bool {
	if d.Letters != a.Letters || d.Start != 0 || len(d.Next) != pairsOf(a, b) || len(d.Final) != len(d.Next) {
		return false
	}
	number := map[states]int{{a.Start, b.Start}: 0}
	pairs := map[int]states{0: {a.Start, b.Start}}
	for s, row := range d.Next {
		p := pairs[s]
		if len(row) != d.Letters || d.Final[s] != final(a.Final[p.a], b.Final[p.b]) {
			return false
		}
		for letter, to := range row {
			next := states{a.Next[p.a][letter], b.Next[p.b][letter]}
			if _, known := number[next]; !known {
				pairs[len(number)] = next
				number[next] = len(number)
			}
			if to != number[next] {
				return false
			}
		}
	}
	return true
}

// notSlowly follows the words of Not.
func notSlowly(d api.Dfa) api.Dfa {
	d = sample.CloneDfa(d)
	for s, is := range d.Final {
		d.Final[s] = !is
	}
	return d
}
