package verdict_test

import (
	"slices"

	"stileward/api"
	"stileward/dfa"
	"stileward/plain"
	"stileward/sample"
	"stileward/word"
)

// What is here follows the words of chapter 15 one by one, without the package it tests.

// answers are what the three functions say of an automaton and a word, and what is wrong for each of them.
type answers struct {
	verdict int
	soonest []int
	watch   bool

	noVerdict, noSoonest, noWatch api.Errno
}

// slowly returns the answers for an automaton and a word, be they such or not.
func slowly(d api.Dfa, w []int) answers {
	wrong := plain.Told(dfa.Check(d))
	a := answers{noVerdict: wrong, noSoonest: wrong, noWatch: wrong}
	if wrong != api.OK {
		return a
	}
	all := verdictsSlowly(d)
	a.watch = watchSlowly(d, all)
	if wrong := plain.Told(word.Check(d.Letters, w)); wrong != api.OK {
		a.noVerdict, a.noSoonest = wrong, wrong
		return a
	}
	s := d.Start
	for _, letter := range w {
		s = d.Next[s][letter]
	}
	a.verdict = all[s]
	soonest, is := soonestSlowly(d, s, all)
	a.soonest = soonest
	if !is {
		a.noSoonest = api.ErrNone
	}
	return a
}

// verdictsSlowly returns the verdict at each state: whether any, and whether all, of the
// states to which words lead from there are final.
func verdictsSlowly(d api.Dfa) []int {
	all := make([]int, len(d.Next))
	for s, goals := range sample.Ways(d) {
		some, every := false, true
		for to, is := range goals {
			some = some || is && d.Final[to]
			every = every && (!is || d.Final[to])
		}
		all[s] = judged(some, every, d.Final[s])
	}
	return all
}

// judged follows the words of the verdicts.
func judged(some, every, accepted bool) int {
	if !some {
		return 0
	}
	if every {
		return 3
	}
	if accepted {
		return 2
	}
	return 1
}

// isSettled follows the words of what is settled.
func isSettled(verdict int) bool { return verdict == 0 || verdict == 3 }

// watchSlowly asks of each state that words lead to whether they lead on to one that is settled.
func watchSlowly(d api.Dfa, all []int) bool {
	lead := sample.Ways(d)
	for s, is := range lead[d.Start] {
		ends := false
		for to, on := range lead[s] {
			ends = ends || on && isSettled(all[to])
		}
		if is && !ends {
			return false
		}
	}
	return true
}

// soonestSlowly goes through the words that lead away from a state by their lengths. Of those
// of one length that lead to one state it keeps the one whose letters precede all others'.
func soonestSlowly(d api.Dfa, s int, all []int) ([]int, bool) {
	words := map[int][]int{s: {}}
	for range d.Next {
		var ends [][]int
		longer := map[int][]int{}
		for at, w := range words {
			if isSettled(all[at]) {
				ends = append(ends, w)
			}
			for letter, to := range d.Next[at] {
				next := append(slices.Clone(w), letter)
				if known, is := longer[to]; !is || slices.Compare(next, known) < 0 {
					longer[to] = next
				}
			}
		}
		if len(ends) > 0 {
			return slices.MinFunc(ends, slices.Compare), true
		}
		words = longer
	}
	return nil, false
}

// verdictOfTexts is the verdict for a text by all the ends it may go on with.
func verdictOfTexts(accepted map[string]bool, w string, ends []string) int {
	some, every := false, true
	for _, end := range ends {
		some = some || accepted[w+end]
		every = every && accepted[w+end]
	}
	return judged(some, every, accepted[w])
}

// soonestOfTexts is the first end behind which the verdict is settled, if there is one.
func soonestOfTexts(accepted map[string]bool, w string, ends []string) (string, bool) {
	for _, v := range ends {
		if isSettled(verdictOfTexts(accepted, w+v, ends)) {
			return v, true
		}
	}
	return "", false
}

// watchOfTexts tells whether there is such an end behind all texts.
func watchOfTexts(accepted map[string]bool, texts, ends []string) bool {
	for _, w := range texts {
		if _, is := soonestOfTexts(accepted, w, ends); !is {
			return false
		}
	}
	return true
}
