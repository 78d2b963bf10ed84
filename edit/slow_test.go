package edit_test

import (
	"slices"

	"stileward/api"
	"stileward/dfa"
	"stileward/plain"
	"stileward/sample"
)

// What is here follows the words of chapter 17 one by one, without the package it tests.

// step is what an offer returns, and what the editor tells behind it.
type step struct {
	gone      []int
	wrong     api.Errno
	out, held []int
}

// wrongOf is what is wrong with an automaton for New.
func wrongOf(d api.Dfa) api.Errno {
	if wrong := plain.Told(dfa.Check(d)); wrong != api.OK {
		return wrong
	}
	if !sample.Accepts(d, nil) {
		return api.ErrLost
	}
	return api.OK
}

// slowly returns the steps of offers to a new editor, one behind the other.
func slowly(d api.Dfa, offers []int) []step {
	var steps []step
	var out, held []int
	for _, a := range offers {
		at := step{}
		switch {
		case a < 0 || a >= d.Letters:
			at.wrong = api.ErrRange
		case len(out)+len(held) >= 80:
			at.wrong = api.ErrFull
		default:
			held = append(held, a)
			if sample.Accepts(d, slices.Concat(out, held)) {
				at.gone = held
				out, held = append(out, held...), nil
			}
		}
		at.out, at.held = slices.Clone(out), slices.Clone(held)
		steps = append(steps, at)
	}
	return steps
}

// longestOf returns the longest beginning of a text that is accepted; of all of them, the
// empty one always is.
func longestOf(accepted map[string]bool, text string) string {
	for len(text) > 0 && !accepted[text] {
		text = text[:len(text)-1]
	}
	return text
}
