package gate_test

import (
	"slices"

	"stileward/api"
	"stileward/dfa"
	"stileward/plain"
	"stileward/safe"
	"stileward/sample"
)

// What is here follows the words of chapter 16 one by one, without the package it tests.

// step is what an offer returns, and what the gate tells behind it.
type step struct {
	passes bool
	wrong  api.Errno
	out    []int
	shut   bool
}

// wrongOf is what is wrong with an automaton for New.
func wrongOf(d api.Dfa) api.Errno {
	if wrong := plain.Told(dfa.Check(d)); wrong != api.OK {
		return wrong
	}
	if class, _ := safe.Class(d); class != 1 && class != 3 {
		return api.ErrShape
	}
	if !sample.Accepts(d, nil) {
		return api.ErrLost
	}
	return api.OK
}

// slowly returns the steps of offers to a new gate, one behind the other.
func slowly(d api.Dfa, offers []int) []step {
	var steps []step
	var passed []int
	shut := false
	for _, a := range offers {
		at := step{}
		switch {
		case a < 0 || a >= d.Letters:
			at.wrong = api.ErrRange
		case !shut && len(passed) >= 80:
			at.wrong = api.ErrFull
		case !shut && sample.Accepts(d, append(slices.Clone(passed), a)):
			passed = append(passed, a)
			at.passes = true
		default:
			shut = true
		}
		at.out, at.shut = slices.Clone(passed), shut
		steps = append(steps, at)
	}
	return steps
}

// wrongOfTexts is what is wrong with an automaton for New, by the texts it accepts.
func wrongOfTexts(accepted map[string]bool) api.Errno {
	for text := range accepted {
		if !hasBeginnings(accepted, text) {
			return api.ErrShape
		}
	}
	if !accepted[""] {
		return api.ErrLost
	}
	return api.OK
}

// hasBeginnings tells whether all beginnings of a text are accepted.
func hasBeginnings(accepted map[string]bool, text string) bool {
	for length := range len(text) {
		if !accepted[text[:length]] {
			return false
		}
	}
	return true
}

// longestOf returns the longest beginning of a text that is accepted.
func longestOf(accepted map[string]bool, text string) string {
	longest := text
	for len(longest) > 0 && !accepted[longest] {
		longest = longest[:len(longest)-1]
	}
	return longest
}
