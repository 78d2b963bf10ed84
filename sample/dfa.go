package sample

import (
	"math"
	"slices"

	"stileward/api"
)

// DfaCheck is an automaton, and the error of dfa.Check for it.
type DfaCheck struct {
	Name string
	Dfa  api.Dfa
	Want api.Errno
}

// Dfa returns an automaton whose rows follow each other in a text, as those of
// Word; the last one may be too short. An odd byte stands for a final state.
func Dfa(letters, start int, rows, finals string) api.Dfa {
	d := api.Dfa{Letters: letters, Start: start}
	length := max(1, min(letters, 7))
	for row := range slices.Chunk(Word(rows), length) {
		d.Next = append(d.Next, row)
	}
	for i := range len(finals) {
		d.Final = append(d.Final, finals[i]&1 == 1)
	}
	return d
}

// Ring returns the automaton of one letter that goes through some states
// before it comes to a ring of others. It accepts what leads to the last state.
func Ring(before, around int) api.Dfa {
	d := api.Dfa{Letters: 1, Final: make([]bool, before+around)}
	for s := range before + around {
		d.Next = append(d.Next, []int{s + 1})
	}
	d.Next[before+around-1][0] = before
	d.Final[before+around-1] = true
	return d
}

// Among returns the automaton of some letters that accepts some words, which are written as
// digits: its states are their beginnings, and behind all others the last one.
func Among(letters int, words ...string) api.Dfa {
	begun := []string{""}
	for _, w := range words {
		for n := range len(w) {
			if !slices.Contains(begun, w[:n+1]) {
				begun = append(begun, w[:n+1])
			}
		}
	}
	d := api.Dfa{Letters: letters}
	for _, w := range begun {
		row := Repeated(letters, len(begun))
		for a := range row {
			if s := slices.Index(begun, w+string(rune('0'+a))); s >= 0 {
				row[a] = s
			}
		}
		d.Next = append(d.Next, row)
		d.Final = append(d.Final, slices.Contains(words, w))
	}
	d.Next = append(d.Next, Repeated(letters, len(begun)))
	d.Final = append(d.Final, false)
	return d
}

// Mixed returns an automaton out of the numbers of Below.
func Mixed(seed uint64, states, letters int) api.Dfa {
	below := Below(seed)
	d := api.Dfa{Letters: letters, Start: below(states)}
	for range states {
		row := make([]int, letters)
		for a := range row {
			row[a] = below(states)
		}
		d.Next = append(d.Next, row)
		d.Final = append(d.Final, below(2) == 1)
	}
	return d
}

// OneFinal returns the automaton of Mixed with one final state.
func OneFinal(seed uint64, states, letters int) api.Dfa {
	d := NoneFinal(Mixed(seed, states, letters))
	d.Final[seed%uint64(states)] = true
	return d
}

// NoneFinal returns an automaton without its final states.
func NoneFinal(d api.Dfa) api.Dfa {
	d.Final = make([]bool, len(d.Final))
	return d
}

// WithFinals returns an automaton in which the states are final that have a + in a text.
func WithFinals(d api.Dfa, text string) api.Dfa {
	d.Final = Pluses(text)
	return d
}

// Started returns an automaton that starts elsewhere.
func Started(d api.Dfa, start int) api.Dfa {
	d.Start = start
	return d
}

// AllDfas returns all automata with as many states and letters.
func AllDfas(states, letters int) []api.Dfa {
	var all []api.Dfa
	for _, cells := range lists(states*letters, states) {
		for _, finals := range lists(states, 2) {
			d := api.Dfa{Letters: letters}
			for s := range states {
				d.Next = append(d.Next, cells[s*letters:(s+1)*letters])
				d.Final = append(d.Final, finals[s] == 1)
			}
			for d.Start = range states {
				all = append(all, CloneDfa(d))
			}
		}
	}
	return all
}

// lists returns all lists of n numbers that are less than a bound.
func lists(n, bound int) [][]int {
	all := [][]int{{}}
	for range n {
		var longer [][]int
		for _, l := range all {
			for number := range bound {
				longer = append(longer, append(slices.Clone(l), number))
			}
		}
		all = longer
	}
	return all
}

// Ways tells for each state to which ones words lead from it: to itself, and to those
// to which they lead from where its letters do.
func Ways(d api.Dfa) [][]bool {
	lead := make([][]bool, len(d.Next))
	for s := range lead {
		lead[s] = make([]bool, len(d.Next))
		lead[s][s] = true
	}
	for changed := true; changed; {
		changed = false
		for s, row := range d.Next {
			for _, next := range row {
				for to, is := range lead[next] {
					if is && !lead[s][to] {
						lead[s][to], changed = true, true
					}
				}
			}
		}
	}
	return lead
}

// Accepts tells whether a word leads to a final state, however long it is.
func Accepts(d api.Dfa, w []int) bool {
	s := d.Start
	for _, a := range w {
		s = d.Next[s][a]
	}
	return d.Final[s]
}

// Language has those of some texts, whose bytes are letters, that an automaton accepts.
func Language(d api.Dfa, texts []string) map[string]bool {
	accepted := map[string]bool{}
	for _, text := range texts {
		if Accepts(d, Word(text)) {
			accepted[text] = true
		}
	}
	return accepted
}

// IsPart tells whether all that an automaton accepts is accepted by another one of as many letters.
func IsPart(part, whole api.Dfa) bool {
	type pair struct{ s, t int }
	all := []pair{{part.Start, whole.Start}}
	known := map[pair]bool{all[0]: true}
	for i := 0; i < len(all); i++ {
		at := all[i]
		if part.Final[at.s] && !whole.Final[at.t] {
			return false
		}
		for letter, s := range part.Next[at.s] {
			if next := (pair{s, whole.Next[at.t][letter]}); !known[next] {
				known[next] = true
				all = append(all, next)
			}
		}
	}
	return true
}

// CloneDfa returns the same automaton in memory of its own.
func CloneDfa(d api.Dfa) api.Dfa {
	rows := d.Next
	d.Next = nil
	for _, row := range rows {
		d.Next = append(d.Next, slices.Clone(row))
	}
	d.Final = slices.Clone(d.Final)
	return d
}

// EqualDfas tells whether two automata have the same states with the same numbers.
func EqualDfas(a, b api.Dfa) bool {
	return a.Letters == b.Letters && a.Start == b.Start &&
		slices.EqualFunc(a.Next, b.Next, slices.Equal) && slices.Equal(a.Final, b.Final)
}

// RoomyDfa returns an automaton with memory behind all its ends, and a function
// that tells whether the automaton and that memory are still as they were.
func RoomyDfa(d api.Dfa) (api.Dfa, func() bool) {
	checks := []func() bool{}
	rows := slices.Clone(d.Next)
	// What is behind the states looks like more of them.
	for range len(d.Next) + 9 {
		rows = append(rows, Repeated(max(0, min(d.Letters, 7)), 0))
	}
	for s, row := range rows {
		roomy, intact := Roomy(row)
		rows[s] = roomy
		checks = append(checks, intact)
	}
	finals := append(slices.Clone(d.Final), slices.Repeat([]bool{true}, len(d.Final)+9)...)
	rowsBefore, finalsBefore := slices.Clone(rows), slices.Clone(finals)
	intact := func() bool {
		for _, check := range checks {
			if !check() {
				return false
			}
		}
		return slices.EqualFunc(rows, rowsBefore, sameMemory) && slices.Equal(finals, finalsBefore)
	}
	d.Next, d.Final = rows[:len(d.Next)], finals[:len(d.Final)]
	return d, intact
}

// sameMemory tells whether two rows are one.
func sameMemory(v, w []int) bool {
	return len(v) == len(w) && (len(v) == 0 || &v[0] == &w[0])
}

// SpoilDfa writes numbers that are no states, beginning with first, over all of
// an automaton and the memory behind its ends. The function that it returns
// tells whether they are all still there: not if two of its slices share
// memory, or if what shares memory with it is spoilt with other numbers.
func SpoilDfa(d api.Dfa, first int) func() bool {
	rows := d.Next[:cap(d.Next)]
	for s := len(d.Next); s < len(rows); s++ {
		rows[s] = []int{0}
	}
	finals := d.Final[:cap(d.Final)]
	for s := range finals {
		finals[s] = first&1 == 1
	}
	number := func(s int) int { return first + 2*s }
	for s, row := range rows {
		row = row[:cap(row)]
		for i := range row {
			row[i] = number(s)
		}
	}
	return func() bool {
		for s, row := range rows {
			for _, found := range row[:cap(row)] {
				if found != number(s) {
					return false
				}
			}
		}
		return !slices.Contains(finals, first&1 == 0)
	}
}

// MakesNew tells whether a function without an error for an automaton returns the same
// each time, in memory that is shared neither with the automaton nor with other results.
func MakesNew(given api.Dfa, maker func(d api.Dfa) (api.Dfa, error)) bool {
	d, intactD := RoomyDfa(given)
	first, err := maker(d)
	want := CloneDfa(first)
	intact := SpoilDfa(first, -100)
	again, wrong := maker(d)
	same := EqualDfas(again, want) && err == nil && wrong == nil
	intactAgain := SpoilDfa(again, -201)
	left := intactD()
	SpoilDfa(d, -302)
	return same && left && intact() && intactAgain()
}

// WordsAreNew tells whether a function without an error for two automata returns the same word
// each time, which is not the empty one, in memory that is shared neither with the automata nor
// with other results.
func WordsAreNew(givenA, givenB api.Dfa, word func(a, b api.Dfa) ([]int, error)) bool {
	a, intactA := RoomyDfa(givenA)
	b, intactB := RoomyDfa(givenB)
	first, err := word(a, b)
	want := slices.Clone(first)
	Fill(first, -1)
	again, wrong := word(a, b)
	same := slices.Equal(again, want) && len(want) > 0 && err == nil && wrong == nil
	left := intactA() && intactB()
	SpoilDfa(a, -100)
	SpoilDfa(b, -201)
	stays := slices.Equal(again, want)
	Fill(again, -2)
	return same && left && stays && !slices.Contains(first[:cap(first)], -2)
}

// wide returns the automaton of some states and letters in which all letters
// lead to the last state. It accepts every word but the empty one.
func wide(states, letters int) api.Dfa {
	d := api.Dfa{Letters: letters, Final: make([]bool, states)}
	for range states {
		d.Next = append(d.Next, Repeated(letters, states-1))
	}
	d.Final[states-1] = true
	return d
}

// changed returns an automaton behind a change of it.
func changed(d api.Dfa, change func(d *api.Dfa)) api.Dfa {
	change(&d)
	return d
}

// DfaChecks returns automata with and without errors. They are for every
// function whose errors are those of dfa.Check, or begin with them.
func DfaChecks() []DfaCheck {
	return slices.Concat(goodDfas(), badAlphabets(), badSizes(), badShapes(), badStates())
}

// goodDfas have no error.
func goodDfas() []DfaCheck {
	return []DfaCheck{
		{"one state", Ring(0, 1), api.OK},
		{"one state that is not final", changed(Ring(0, 1), func(d *api.Dfa) { d.Final[0] = false }), api.OK},
		{"two states", Ring(1, 1), api.OK},
		{"all letters", wide(1, 6), api.OK},
		{"39 states", Ring(0, 39), api.OK},
		{"40 states", Ring(3, 37), api.OK},
		{"40 states and all letters", wide(40, 6), api.OK},
		{"start at the last state", changed(wide(40, 2), func(d *api.Dfa) { d.Start = 39 }), api.OK},
		{"states that no word leads to", changed(Ring(5, 5), func(d *api.Dfa) { d.Start = 7 }), api.OK},
		{"a row that is another one", changed(wide(3, 2), func(d *api.Dfa) { d.Next[0] = d.Next[2] }), api.OK},
		{"no order", Mixed(1, 7, 3), api.OK},
		{"no order of many", Mixed(2, 40, 6), api.OK},
	}
}

// badAlphabets have an error in Letters, and some of them others as well.
func badAlphabets() []DfaCheck {
	letters := func(d api.Dfa, n int) api.Dfa { return changed(d, func(d *api.Dfa) { d.Letters = n }) }
	return []DfaCheck{
		{"nothing", api.Dfa{}, api.ErrRange},
		{"no alphabet", letters(Ring(0, 1), 0), api.ErrRange},
		{"no alphabet with empty rows", wide(3, 0), api.ErrRange},
		{"negative alphabet", letters(Ring(0, 1), -1), api.ErrRange},
		{"least alphabet", letters(Ring(0, 1), math.MinInt), api.ErrRange},
		{"alphabet of 7", wide(3, 7), api.ErrRange},
		{"alphabet of 7 with rows of 6", letters(wide(3, 6), 7), api.ErrRange},
		{"great alphabet", letters(Ring(0, 1), 1<<32+1), api.ErrRange},
		{"greatest alphabet", letters(Ring(0, 1), math.MaxInt), api.ErrRange},
		{"no alphabet of 41 states", wide(41, 0), api.ErrRange},
		{"alphabet of 7 without states", api.Dfa{Letters: 7}, api.ErrRange},
		{"alphabet of 7 of 41 states", wide(41, 7), api.ErrRange},
	}
}

// badSizes have too many states, and some of them other errors as well.
func badSizes() []DfaCheck {
	return []DfaCheck{
		{"41 states", Ring(0, 41), api.ErrFull},
		{"41 states and all letters", wide(41, 6), api.ErrFull},
		{"80 states", wide(80, 2), api.ErrFull},
		{"256 states", wide(256, 1), api.ErrFull},
		{"296 states", wide(296, 1), api.ErrFull},
		{"41 states, none of them final or not", changed(wide(41, 2), func(d *api.Dfa) { d.Final = nil }), api.ErrFull},
		{"41 states, 40 of them final or not", changed(wide(41, 2), func(d *api.Dfa) { d.Final = d.Final[:40] }), api.ErrFull},
		{"41 states without rows", api.Dfa{Letters: 1, Next: make([][]int, 41), Final: make([]bool, 41)}, api.ErrFull},
		{"41 states, the last of them short", changed(wide(41, 2), func(d *api.Dfa) { d.Next[40] = nil }), api.ErrFull},
		{"41 states and no start", changed(wide(41, 2), func(d *api.Dfa) { d.Start = -1 }), api.ErrFull},
		{"41 states, one leading nowhere", changed(wide(41, 2), func(d *api.Dfa) { d.Next[0][0] = -1 }), api.ErrFull},
	}
}

// badShapes have lists of wrong lengths, and some of them other errors as well.
func badShapes() []DfaCheck {
	return []DfaCheck{
		{"no state", api.Dfa{Letters: 1}, api.ErrShape},
		{"no state in empty lists", api.Dfa{Letters: 6, Next: [][]int{}, Final: []bool{}}, api.ErrShape},
		{"no state, but a final one", api.Dfa{Letters: 1, Final: []bool{true}}, api.ErrShape},
		{"no state, and no start", api.Dfa{Letters: 1, Start: -1}, api.ErrShape},
		{"no finals", changed(wide(2, 2), func(d *api.Dfa) { d.Final = nil }), api.ErrShape},
		{"a final too few", changed(wide(3, 2), func(d *api.Dfa) { d.Final = d.Final[:2] }), api.ErrShape},
		{"a final too many", changed(wide(3, 2), func(d *api.Dfa) { d.Final = append(d.Final, true) }), api.ErrShape},
		{"41 finals of 40 states", changed(wide(40, 2), func(d *api.Dfa) { d.Final = append(d.Final, true) }), api.ErrShape},
		{"a row of nil", changed(wide(3, 2), func(d *api.Dfa) { d.Next[1] = nil }), api.ErrShape},
		{"an empty row of one letter", changed(wide(3, 1), func(d *api.Dfa) { d.Next[2] = []int{} }), api.ErrShape},
		{"the first row too short", changed(wide(3, 3), func(d *api.Dfa) { d.Next[0] = d.Next[0][:2] }), api.ErrShape},
		{"the last row too short", changed(wide(40, 6), func(d *api.Dfa) { d.Next[39] = d.Next[39][:5] }), api.ErrShape},
		{"the first row too long", changed(wide(3, 3), func(d *api.Dfa) { d.Next[0] = append(d.Next[0], 0) }), api.ErrShape},
		{"the last row too long", changed(wide(40, 6), func(d *api.Dfa) { d.Next[39] = append(d.Next[39], 0) }), api.ErrShape},
		{"a letter more than the rows have", changed(wide(3, 2), func(d *api.Dfa) { d.Letters = 3 }), api.ErrShape},
		{"a letter less than the rows have", changed(wide(3, 2), func(d *api.Dfa) { d.Letters = 1 }), api.ErrShape},
		{"a final too few and no start", changed(wide(3, 2), func(d *api.Dfa) { d.Final, d.Start = d.Final[:2], 3 }), api.ErrShape},
		{"a short row and no start", changed(wide(3, 2), func(d *api.Dfa) { d.Next[2], d.Start = nil, -1 }), api.ErrShape},
		{"a short row behind one leading nowhere", changed(wide(3, 2), func(d *api.Dfa) { d.Next[0][0], d.Next[2] = -1, nil }), api.ErrShape},
		{"a long row that leads nowhere", changed(wide(3, 2), func(d *api.Dfa) { d.Next[1] = append(d.Next[1], 3) }), api.ErrShape},
	}
}

// badStates name states that are none.
func badStates() []DfaCheck {
	start := func(d api.Dfa, s int) api.Dfa { return changed(d, func(d *api.Dfa) { d.Start = s }) }
	leads := func(d api.Dfa, s, a, to int) api.Dfa { return changed(d, func(d *api.Dfa) { d.Next[s][a] = to }) }
	return []DfaCheck{
		{"start at -1", start(wide(3, 2), -1), api.ErrRange},
		{"start behind the last state", start(wide(3, 2), 3), api.ErrRange},
		{"start at 1 of 1", start(Ring(0, 1), 1), api.ErrRange},
		{"start at 40 of 40", start(wide(40, 2), 40), api.ErrRange},
		{"start at the least number", start(wide(3, 2), math.MinInt), api.ErrRange},
		{"start at the greatest number", start(wide(3, 2), math.MaxInt), api.ErrRange},
		{"start at a great number", start(wide(3, 2), 1<<32), api.ErrRange},
		{"to -1", leads(Ring(0, 1), 0, 0, -1), api.ErrRange},
		{"to 1 of 1", leads(Ring(0, 1), 0, 0, 1), api.ErrRange},
		{"from the first state to none", leads(wide(3, 2), 0, 0, 3), api.ErrRange},
		{"from the last state to none", leads(wide(40, 6), 39, 5, 40), api.ErrRange},
		{"by the last letter to none", leads(wide(3, 6), 1, 5, -1), api.ErrRange},
		{"to the least number", leads(wide(3, 2), 1, 0, math.MinInt), api.ErrRange},
		{"to the greatest number", leads(wide(3, 2), 1, 1, math.MaxInt), api.ErrRange},
		{"to a great number", leads(wide(3, 2), 2, 1, 1<<32), api.ErrRange},
		{"to none from where no word leads", start(leads(Ring(5, 5), 0, 0, 10), 7), api.ErrRange},
	}
}

// DfaPair is two automata, and what is wrong with them.
type DfaPair struct {
	Name string
	A, B api.Dfa
	Want api.Errno
}

// DfaPairs returns pairs of automata of which one or both have an error, or that differ
// in their Letters. They are for every function whose errors are those of dfa.CheckBoth,
// or begin with them.
func DfaPairs() []DfaPair {
	full, none, great := Ring(0, 41), api.Dfa{Letters: 1}, Mixed(1, 40, 6)
	outside := Started(Ring(0, 3), 3)
	return []DfaPair{
		{"too many states and none", full, none, api.ErrFull},
		{"no state and too many", none, full, api.ErrShape},
		{"no start and too many states", outside, full, api.ErrRange},
		{"too many states and no start", full, outside, api.ErrFull},
		{"other letters and no state", great, none, api.ErrShape},
		{"other letters and too many states", great, full, api.ErrFull},
		{"other letters and no start", great, outside, api.ErrRange},
		{"too many states and other letters", full, great, api.ErrFull},
		{"no start and other letters", outside, great, api.ErrRange},
		{"more letters and less", great, Ring(0, 39), api.ErrShape},
		{"less letters and more", Ring(0, 39), great, api.ErrShape},
		{"two letters and one of one state", wide(1, 2), Ring(0, 1), api.ErrShape},
		{"one letter and two of one state", Ring(0, 1), wide(1, 2), api.ErrShape},
	}
}

// LongDfas returns automata that have errors of dfa.Check, and lists that are long in one place or another.
func LongDfas() []DfaCheck {
	const long = 1 << 24
	return []DfaCheck{
		{"long list of states", api.Dfa{Letters: 1, Next: make([][]int, long)}, api.ErrFull},
		{"long list of finals", api.Dfa{Letters: 1, Next: [][]int{{0}}, Final: make([]bool, long)}, api.ErrShape},
		{"long row", api.Dfa{Letters: 1, Next: [][]int{make([]int, long)}, Final: []bool{true}}, api.ErrShape},
		{"long row of as many letters", api.Dfa{Letters: long, Next: [][]int{make([]int, long)}, Final: []bool{true}}, api.ErrRange},
	}
}
