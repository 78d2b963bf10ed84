package back_test

import (
	"fmt"
	"slices"

	"stileward/api"
	"stileward/form"
	"stileward/mean"
	"stileward/plain"
)

// What is here follows the words of chapter 12 one by one, without the package it tests.

// mirrored returns a word backwards.
func mirrored(w []int) []int {
	w = slices.Clone(w)
	slices.Reverse(w)
	return w
}

// automatonOf makes an automaton out of what there is behind words: its states are the names
// of that, each of which it looks for behind the first word that leads to it.
func automatonOf(letters, most int, name func(read []int) string, final func(read []int) bool) (api.Dfa, api.Errno) {
	names, first := []string{name(nil)}, [][]int{nil}
	d := api.Dfa{Letters: letters}
	for s := 0; s < len(names); s++ {
		var row []int
		for letter := range letters {
			read := append(slices.Clone(first[s]), letter)
			to := slices.Index(names, name(read))
			if to < 0 {
				to = len(names)
				names, first = append(names, name(read)), append(first, read)
			}
			if to >= most {
				return api.Dfa{}, api.ErrFull
			}
			row = append(row, to)
		}
		d.Next = append(d.Next, row)
		d.Final = append(d.Final, final(first[s]))
	}
	return d, api.OK
}

// valuesOf returns the values of all nodes for a word that is read from its end.
func valuesOf(letters int, f []api.Node, read []int) []bool {
	values, err := mean.Values(letters, f, mirrored(read))
	if err != nil {
		panic(err)
	}
	return values
}

// backSlowly follows the words of Back.
func backSlowly(letters int, f []api.Node) (api.Dfa, api.Errno) {
	if err := form.Check(letters, f); err != nil {
		return api.Dfa{}, plain.Told(err)
	}
	name := func(read []int) string { return fmt.Sprint(valuesOf(letters, f, read)) }
	return automatonOf(letters, 40, name, func(read []int) bool { return valuesOf(letters, f, read)[len(f)-1] })
}

// setBehind returns the states in which the mirror of an automaton can be behind a word: those
// from which the automaton comes to a final state when it reads the word from its end.
func setBehind(d api.Dfa, w []int) []int {
	var set []int
	for s := range d.Next {
		at := s
		for _, letter := range slices.Backward(w) {
			at = d.Next[at][letter]
		}
		if d.Final[at] {
			set = append(set, s)
		}
	}
	return set
}

// setsOf returns the automaton of the sets behind words.
func setsOf(d api.Dfa, most int) (api.Dfa, api.Errno) {
	name := func(w []int) string { return fmt.Sprint(setBehind(d, w)) }
	return automatonOf(d.Letters, most, name, func(w []int) bool { return slices.Contains(setBehind(d, w), d.Start) })
}

// makeSlowly follows the words of Make.
func makeSlowly(letters int, f []api.Node) (api.Dfa, api.Errno) {
	d, wrong := backSlowly(letters, f)
	if wrong != api.OK {
		return api.Dfa{}, wrong
	}
	return setsOf(d, 40)
}
