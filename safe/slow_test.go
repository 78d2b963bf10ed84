package safe_test

import (
	"slices"

	"stileward/api"
	"stileward/dfa"
	"stileward/plain"
	"stileward/sample"
)

// What is here follows the words of chapter 14 one by one, without the package it tests.

// answers are what the five functions say of an automaton, and what is wrong for all of them.
type answers struct {
	prefixes, rest, always, ever api.Dfa
	class                        int
	wrong                        api.Errno
}

// slowly returns the answers for an automaton, be it one or not.
func slowly(d api.Dfa) answers {
	if wrong := plain.Told(dfa.Check(d)); wrong != api.OK {
		return answers{wrong: wrong}
	}
	a := answers{
		prefixes: sample.CloneDfa(d),
		rest:     sample.CloneDfa(d),
		always:   sample.CloneDfa(d),
		ever:     sample.CloneDfa(d),
		class:    classSlowly(d),
	}
	for s, goals := range sample.Ways(d) {
		alive := false
		for to, is := range goals {
			alive = alive || is && d.Final[to]
		}
		a.prefixes.Final[s] = alive
		a.rest.Final[s] = d.Final[s] || !alive
		if d.Final[s] {
			sample.Fill(a.ever.Next[s], s)
		} else {
			sample.Fill(a.always.Next[s], s)
		}
	}
	return a
}

// classSlowly looks for a word and a longer one that begins with it of which one is
// accepted and the other one is not.
func classSlowly(d api.Dfa) int {
	lead := sample.Ways(d)
	class := 3
	for s, is := range lead[d.Start] {
		for to, on := range lead[s] {
			if is && on && !d.Final[s] && d.Final[to] {
				class &^= 1
			}
			if is && on && d.Final[s] && !d.Final[to] {
				class &^= 2
			}
		}
	}
	return class
}

// language tells of words whether an automaton accepts them.
func language(d api.Dfa, words [][]int) []bool {
	accepted := make([]bool, len(words))
	for i, w := range words {
		accepted[i], _ = dfa.Accepts(d, w)
	}
	return accepted
}

// kin is what is accepted of the beginnings of a word, and of the words that begin with it.
type kin struct {
	begunIn, begunOut bool // whether a beginning is accepted, and whether one is not
	goesOn            bool // whether something that begins with it is accepted
}

// kinOf looks at all pairs of words of which one begins with the other.
func kinOf(words [][]int, accepted []bool) []kin {
	all := make([]kin, len(words))
	for i, long := range words {
		for j, short := range words {
			if len(short) > len(long) || !slices.Equal(short, long[:len(short)]) {
				continue
			}
			all[i].begunIn = all[i].begunIn || accepted[j]
			all[i].begunOut = all[i].begunOut || !accepted[j]
			all[j].goesOn = all[j].goesOn || accepted[i]
		}
	}
	return all
}

// classOfWords is the class of what is accepted of some words.
func classOfWords(all []kin, accepted []bool) int {
	class := 3
	for i, k := range all {
		if accepted[i] && k.begunOut {
			class &^= 1
		}
		if !accepted[i] && k.begunIn {
			class &^= 2
		}
	}
	return class
}
