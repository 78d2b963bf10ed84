package past_test

import (
	"slices"

	"stileward/api"
	"stileward/plain"
	"stileward/word"
)

// What is here follows the words of chapter 13 one by one, without the package it tests and
// without mirrors.

// wrongOf follows the words of the errors of Check.
func wrongOf(letters int, f []api.Node) api.Errno {
	switch {
	case letters < 1 || letters > 6:
		return api.ErrRange
	case len(f) == 0:
		return api.ErrShape
	case len(f) > 40:
		return api.ErrFull
	}
	for i, n := range f {
		earlier := func(operand int) bool { return operand >= 0 && operand <= i-1 }
		var isShaped bool
		switch n.Kind {
		case 0, 1:
			isShaped = n.A == 0 && n.B == 0
		case 2:
			if n.A < 0 || n.A > []int{1, 3, 7, 15, 31, 63}[letters-1] {
				return api.ErrRange
			}
			isShaped = n.B == 0
		case 3, 10:
			isShaped = earlier(n.A) && n.B == 0
		case 4, 5, 11:
			isShaped = earlier(n.A) && earlier(n.B)
		default:
			return api.ErrRange
		}
		if !isShaped {
			return api.ErrShape
		}
	}
	return api.OK
}

// since tells whether Since holds for the prefix of i letters, out of the values of its
// operands for all prefixes, the first of which is the empty one.
func since(a, b []bool, i int) bool {
	for short := 1; short <= i; short++ {
		if b[short] && !slices.Contains(a[short+1:i+1], false) {
			return true
		}
	}
	return false
}

// holds tells whether a node holds for the prefix of i letters, out of the values of the
// earlier nodes for all prefixes.
func holds(n api.Node, of [][]bool, w []int, i int) bool {
	switch n.Kind {
	case 0:
		return true
	case 2:
		return i > 0 && n.A>>w[i-1]%2 == 1
	case 3:
		return !of[n.A][i]
	case 4:
		return of[n.A][i] && of[n.B][i]
	case 5:
		return of[n.A][i] || of[n.B][i]
	case 10:
		return i > 0 && of[n.A][i-1]
	case 11:
		return since(of[n.A], of[n.B], i)
	}
	return false
}

// valuesOf returns the values of all nodes of a formula for a word: node by node, of each
// for all prefixes.
func valuesOf(f []api.Node, w []int) []bool {
	var of [][]bool
	var values []bool
	for _, n := range f {
		var prefixes []bool
		for i := range len(w) + 1 {
			prefixes = append(prefixes, holds(n, of, w, i))
		}
		of = append(of, prefixes)
		values = append(values, prefixes[len(w)])
	}
	return values
}

// holdsSlowly follows the words of Holds.
func holdsSlowly(letters int, f []api.Node, w []int) (bool, api.Errno) {
	if wrong := wrongOf(letters, f); wrong != api.OK {
		return false, wrong
	}
	if err := word.Check(letters, w); err != nil {
		return false, plain.Told(err)
	}
	return valuesOf(f, w)[len(f)-1], api.OK
}

// startSlowly follows the words of Start.
func startSlowly(letters int, f []api.Node) ([]bool, api.Errno) {
	if wrong := wrongOf(letters, f); wrong != api.OK {
		return nil, wrong
	}
	return valuesOf(f, nil), api.OK
}

// feedSlowly follows the words of Feed.
func feedSlowly(letters int, f []api.Node, was []bool, a int) ([]bool, api.Errno) {
	switch wrong := wrongOf(letters, f); {
	case wrong != api.OK:
		return nil, wrong
	case len(was) != len(f):
		return nil, api.ErrShape
	case a < 0 || a > letters-1:
		return nil, api.ErrRange
	}
	var is []bool
	for i, n := range f {
		var value bool
		switch n.Kind {
		case 0:
			value = true
		case 2:
			value = n.A>>a%2 == 1
		case 3:
			value = !is[n.A]
		case 4:
			value = is[n.A] && is[n.B]
		case 5:
			value = is[n.A] || is[n.B]
		case 10:
			value = was[n.A]
		case 11:
			value = is[n.B] || is[n.A] && was[i]
		}
		is = append(is, value)
	}
	return is, api.OK
}

// mirrorSlowly follows the words of Mirror.
func mirrorSlowly(letters int, f []api.Node) ([]api.Node, api.Errno) {
	if wrong := wrongOf(letters, f); wrong != api.OK {
		return nil, wrong
	}
	var ahead []api.Node
	for _, n := range f {
		switch n.Kind {
		case 10:
			n.Kind = 6
		case 11:
			n.Kind = 8
		}
		ahead = append(ahead, n)
	}
	return ahead, api.OK
}

// mirrored returns a word backwards.
func mirrored(w []int) []int {
	w = slices.Clone(w)
	slices.Reverse(w)
	return w
}
