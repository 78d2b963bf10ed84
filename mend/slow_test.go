package mend_test

import (
	"cmp"
	"slices"

	"stileward/api"
	"stileward/dfa"
	"stileward/near"
	"stileward/plain"
	"stileward/sample"
	"stileward/word"
)

// What is here follows the words of chapter 18 one by one, without the package it tests.

// answers are what both functions say of an automaton and a word, and what is wrong for each of them.
type answers struct {
	cost   int
	mended []int

	noCost, noMended api.Errno
}

// slowly returns the answers for an automaton and a word, be they such or not.
func slowly(d api.Dfa, w []int) answers {
	wrong := plain.Told(dfa.Check(d))
	if wrong == api.OK {
		wrong = plain.Told(word.Check(d.Letters, w))
	}
	if wrong == api.OK && !acceptsAny(d) {
		wrong = api.ErrNone
	}
	if wrong != api.OK {
		return answers{noCost: wrong, noMended: wrong}
	}
	best := nearestSlowly(d, w)
	if len(best.word) > 80 {
		return answers{cost: best.edits, noMended: api.ErrFull}
	}
	return answers{cost: best.edits, mended: best.word}
}

// acceptsAny tells whether a word leads to a final state.
func acceptsAny(d api.Dfa) bool {
	for s, is := range sample.Ways(d)[d.Start] {
		if is && d.Final[s] {
			return true
		}
	}
	return false
}

// place is where edits have come in a word: how many of its letters they have seen, and the
// state behind the letters that they have made.
type place struct{ seen, state int }

// made is a word that edits make, and how many there are.
type made struct {
	edits int
	word  []int
}

// before tells whether a made word is better than another one: it has fewer edits, or as many
// and precedes it.
func (m made) before(other made) bool {
	return cmp.Or(m.edits-other.edits, len(m.word)-len(other.word), slices.Compare(m.word, other.word)) < 0
}

// nearestSlowly allows more and more edits, until some of them make an accepted word of w.
func nearestSlowly(d api.Dfa, w []int) made {
	for most := 0; ; most = 2*most + 1 {
		if best, is := within(d, w, most); is {
			return best
		}
	}
}

// within makes words of w by at most as many edits, all of them letter by letter, and returns
// the best one that is accepted, if there is one. Of words of one length that come to one
// place it goes on with the best one, as all of them can go on in the same ways.
func within(d api.Dfa, w []int, most int) (made, bool) {
	best, found := made{edits: most}, false
	for level := map[place]made{{0, d.Start}: {}}; len(level) > 0; {
		longer := map[place]made{}
		for at, m := range level {
			// Now some letters may be removed. No longer word is better by as many edits.
			for at.seen <= len(w) && m.edits <= best.edits {
				if at.seen == len(w) && d.Final[at.state] && (!found || m.before(best)) {
					best, found = m, true
				}
				goOn(longer, d, w, at, m, best.edits)
				at.seen++
				m.edits++
			}
		}
		level = longer
	}
	return best, found
}

// goOn makes one more letter, if there may be as many edits: it is inserted, or the next one
// is replaced by it or left.
func goOn(longer map[place]made, d api.Dfa, w []int, at place, m made, most int) {
	for a, to := range d.Next[at.state] {
		if m.edits < most {
			keep(longer, place{at.seen, to}, m, a, m.edits+1)
		}
		if at.seen == len(w) {
			continue
		}
		if w[at.seen] == a {
			keep(longer, place{at.seen + 1, to}, m, a, m.edits)
		} else if m.edits < most {
			keep(longer, place{at.seen + 1, to}, m, a, m.edits+1)
		}
	}
}

// keep puts a word with one more letter to a place, if it is the best one there.
func keep(longer map[place]made, at place, m made, a, edits int) {
	if known, is := longer[at]; is {
		n := len(m.word)
		if cmp.Or(known.edits-edits, slices.Compare(known.word[:n], m.word), known.word[n]-a) <= 0 {
			return
		}
	}
	longer[at] = made{edits, append(slices.Clone(m.word), a)}
}

// nearestOf returns the best of some words for w, which are in the order of word.Less.
func nearestOf(letters int, words [][]int, w []int) (made, bool) {
	best, found := made{}, false
	for _, v := range words {
		edits, err := near.Distance(letters, w, v)
		if err != nil {
			panic(err)
		}
		if !found || edits < best.edits {
			best, found = made{edits, v}, true
		}
	}
	return best, found
}

// answersOf returns the answers for an automaton that accepts some words, all of them with at
// most 80 letters.
func answersOf(letters int, words [][]int, w []int) answers {
	best, found := nearestOf(letters, words, w)
	if !found {
		return answers{noCost: api.ErrNone, noMended: api.ErrNone}
	}
	return answers{cost: best.edits, mended: best.word}
}
