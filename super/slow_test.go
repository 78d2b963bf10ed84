package super_test

import (
	"slices"

	"stileward/api"
	"stileward/dfa"
	"stileward/plain"
	"stileward/sample"
	"stileward/small"
)

// What is here follows the words of chapter 20 one by one, without the package it tests.

// answers are what both functions say of a plant, another automaton and a set of letters, and
// what is wrong for each of them.
type answers struct {
	kept  bool
	first []int
	most  api.Dfa

	noKept, noMost api.Errno
}

// slowly returns the answers for some arguments, be they such or not.
func slowly(plant, d api.Dfa, free int) answers {
	wrong := plain.Told(dfa.CheckBoth(plant, d))
	if wrong == api.OK && (free < 0 || free > 1<<plant.Letters-1) {
		wrong = api.ErrRange
	}
	if wrong != api.OK {
		return answers{noKept: wrong, noMost: wrong}
	}
	first, is := firstSlowly(plant, d, free)
	most, wrong := mostSlowly(plant, d, free)
	return answers{kept: !is, first: first, most: most, noMost: wrong}
}

// goOn tells for each state whether something is accepted from there.
func goOn(d api.Dfa) []bool {
	goes := make([]bool, len(d.Next))
	for s, lead := range sample.Ways(d) {
		for to, is := range lead {
			goes[s] = goes[s] || is && d.Final[to]
		}
	}
	return goes
}

// sides are a plant and another automaton, and what is free.
type sides struct {
	plant, d        api.Dfa
	free            int
	produces, begun []bool
}

// newSides returns two automata with what is to be known of them.
func newSides(plant, d api.Dfa, free int) sides {
	return sides{plant, d, free, goOn(plant), goOn(d)}
}

// escapes tells whether a free letter leads out of what d begins, as the plant may go.
func (x sides) escapes(s, t, letter int) bool {
	return sample.Has(x.free, letter) && x.produces[x.plant.Next[s][letter]] && x.begun[t] && !x.begun[x.d.Next[t][letter]]
}

// far is more letters than any escape needs.
const far = 1 << 30

// lengths tells for each state of the plant and of the other automaton how few letters lead out
// of what d begins.
func (x sides) lengths() [][]int {
	least := make([][]int, len(x.plant.Next))
	for s := range least {
		least[s] = sample.Repeated(len(x.d.Next), far)
	}
	for changed := true; changed; {
		changed = false
		for s, row := range x.plant.Next {
			for t, other := range x.d.Next {
				for letter := range row {
					length := 1 + least[row[letter]][other[letter]]
					if x.escapes(s, t, letter) {
						length = 1
					}
					if x.begun[t] && length < least[s][t] {
						least[s][t], changed = length, true
					}
				}
			}
		}
	}
	return least
}

// firstSlowly returns the first word that leads out of what d begins, if there is one. Its
// letters are one by one the first ones with which the shortest words go on.
func firstSlowly(plant, d api.Dfa, free int) ([]int, bool) {
	x := newSides(plant, d, free)
	least := x.lengths()
	s, t := plant.Start, d.Start
	if least[s][t] == far {
		return nil, false
	}
	var w []int
	for n := least[s][t]; n > 0; n-- {
		for letter, to := range plant.Next[s] {
			next := d.Next[t][letter]
			if n == 1 && x.escapes(s, t, letter) || n > 1 && least[to][next] == n-1 {
				w = append(w, letter)
				s, t = to, next
				break
			}
		}
	}
	return w, true
}

// duo is a state of the plant and one of the other automaton.
type duo struct{ s, t int }

// by returns where a letter leads from a pair.
func (x sides) by(p duo, letter int) duo {
	return duo{x.plant.Next[p.s][letter], x.d.Next[p.t][letter]}
}

// duos returns the pairs to which words lead.
func (x sides) duos() []duo {
	all := []duo{{x.plant.Start, x.d.Start}}
	known := map[duo]bool{all[0]: true}
	for i := 0; i < len(all); i++ {
		for letter := range x.plant.Letters {
			if next := x.by(all[i], letter); !known[next] {
				known[next] = true
				all = append(all, next)
			}
		}
	}
	return all
}

// ends tells whether letters lead from a pair, through such as are left, to one of which both
// states are final.
func (x sides) ends(from duo, left map[duo]bool) bool {
	seen := []duo{from}
	for i := 0; i < len(seen); i++ {
		if x.plant.Final[seen[i].s] && x.d.Final[seen[i].t] {
			return true
		}
		for letter := range x.plant.Letters {
			if next := x.by(seen[i], letter); left[next] && !slices.Contains(seen, next) {
				seen = append(seen, next)
			}
		}
	}
	return false
}

// slips tells whether a free letter leads from a pair to one that is not left, as the plant may go.
func (x sides) slips(from duo, left map[duo]bool) bool {
	for letter := range x.plant.Letters {
		next := x.by(from, letter)
		if sample.Has(x.free, letter) && x.produces[next.s] && !left[next] {
			return true
		}
	}
	return false
}

// through returns the automaton of the words that both accept and that lead through pairs that
// are left alone. There are at most 40 pairs.
func (x sides) through(all []duo, left map[duo]bool) api.Dfa {
	d := api.Dfa{Letters: x.plant.Letters}
	for at, p := range all {
		row := sample.Repeated(d.Letters, at)
		for letter := range row {
			if left[p] {
				row[letter] = slices.Index(all, x.by(p, letter))
			}
		}
		d.Next = append(d.Next, row)
		d.Final = append(d.Final, left[p] && x.plant.Final[p.s] && x.d.Final[p.t])
	}
	return d
}

// mostSlowly takes away pairs one by one that cannot be kept.
func mostSlowly(plant, spec api.Dfa, free int) (api.Dfa, api.Errno) {
	x := newSides(plant, spec, free)
	all := x.duos()
	if len(all) > 40 {
		return api.Dfa{}, api.ErrFull
	}
	left := map[duo]bool{}
	for _, p := range all {
		left[p] = true
	}
	for changed := true; changed; {
		changed = false
		for _, p := range all {
			if left[p] && (!x.ends(p, left) || x.slips(p, left)) {
				delete(left, p)
				changed = true
			}
		}
	}
	if !left[all[0]] {
		return api.Dfa{}, api.ErrNone
	}
	most, err := small.Minimal(x.through(all, left))
	return most, plain.Told(err)
}
