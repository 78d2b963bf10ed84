package form_test

import (
	"math/bits"
	"slices"
	"strconv"
	"strings"

	"stileward/api"
	"stileward/sample"
)

// What is here follows the words of chapter 10 one by one, without the package it tests.

// wrongOf follows the words of the errors of Check.
func wrongOf(letters int, f []api.Node) api.Errno {
	switch {
	case letters < 1 || letters > 6:
		return api.ErrRange
	case len(f) == 0:
		return api.ErrShape
	case len(f) > 40:
		return api.ErrFull
	}
	for i, n := range f {
		earlier := func(operand int) bool { return operand >= 0 && operand <= i-1 }
		var isShaped bool
		switch n.Kind {
		case 0, 1:
			isShaped = n.A == 0 && n.B == 0
		case 2:
			if n.A < 0 || n.A > []int{1, 3, 7, 15, 31, 63}[letters-1] {
				return api.ErrRange
			}
			isShaped = n.B == 0
		case 3, 6, 7:
			isShaped = earlier(n.A) && n.B == 0
		case 4, 5, 8, 9:
			isShaped = earlier(n.A) && earlier(n.B)
		default:
			return api.ErrRange
		}
		if !isShaped {
			return api.ErrShape
		}
	}
	return api.OK
}

// setText is the text of a set.
func setText(set int) string {
	s := "["
	for a := range 64 {
		if set>>a&1 == 1 {
			s += strconv.Itoa(a)
		}
	}
	return s + "]"
}

// textOf follows the words of the text of a node.
func textOf(x sample.Tree) string {
	part := func(i int) string { return textOf(x.Parts[i]) }
	switch x.Kind {
	case 0:
		return "t"
	case 1:
		return "f"
	case 2:
		return setText(x.Set)
	case 3:
		return "!" + part(0)
	case 4:
		return "(" + part(0) + "&" + part(1) + ")"
	case 5:
		return "(" + part(0) + "|" + part(1) + ")"
	case 6:
		return "X" + part(0)
	case 7:
		return "W" + part(0)
	case 8:
		return "(" + part(0) + "U" + part(1) + ")"
	}
	return "(" + part(0) + "R" + part(1) + ")"
}

// lengths returns the number of bytes of the text of each node.
func lengths(f []api.Node) []int {
	var all []int
	for _, n := range f {
		length := 1
		switch {
		case n.Kind == 2:
			length = 2 + bits.OnesCount(uint(n.A))
		case sample.Operands(n.Kind) == 1:
			length = 1 + all[n.A]
		case sample.Operands(n.Kind) == 2:
			length = 3 + all[n.A] + all[n.B]
		}
		all = append(all, length)
	}
	return all
}

// writeSlowly follows the words of Write.
func writeSlowly(letters int, f []api.Node) (string, api.Errno) {
	if wrong := wrongOf(letters, f); wrong != api.OK {
		return "", wrong
	}
	if lengths(f)[len(f)-1] > 300 {
		return "", api.ErrFull
	}
	return textOf(sample.Unfold(f, len(f)-1)), api.OK
}

// outside returns the places in a text, outside of all its parentheses, of some signs.
func outside(s, signs string) []int {
	var places []int
	depth := 0
	for i := range len(s) {
		switch {
		case s[i] == '(':
			depth++
		case s[i] == ')':
			depth--
		case depth == 0 && strings.IndexByte(signs, s[i]) >= 0:
			places = append(places, i)
		}
	}
	return places
}

// cut reads what is in front of a place and what is behind it.
func cut(letters int, s string, at, kind int) (sample.Tree, bool) {
	a, isA := treeOf(letters, s[:at])
	b, isB := treeOf(letters, s[at+1:])
	return sample.Tree{Kind: kind, Parts: []sample.Tree{a, b}}, isA && isB
}

// treeOf cuts a text without spaces at the sign that binds most loosely: at the last one if
// it is left-associative, and at the first one if it is right-associative.
func treeOf(letters int, s string) (sample.Tree, bool) {
	if places := outside(s, "|"); len(places) > 0 {
		return cut(letters, s, places[len(places)-1], 5)
	}
	if places := outside(s, "&"); len(places) > 0 {
		return cut(letters, s, places[len(places)-1], 4)
	}
	if places := outside(s, "UR"); len(places) > 0 {
		kind := 8
		if s[places[0]] == 'R' {
			kind = 9
		}
		return cut(letters, s, places[0], kind)
	}
	for sign, kind := range map[string]int{"!": 3, "X": 6, "W": 7} {
		if rest, is := strings.CutPrefix(s, sign); is {
			a, isA := treeOf(letters, rest)
			return sample.Tree{Kind: kind, Parts: []sample.Tree{a}}, isA
		}
	}
	if len(s) >= 2 && s[0] == '(' && s[len(s)-1] == ')' {
		return treeOf(letters, s[1:len(s)-1])
	}
	for set := range 1 << letters {
		if s == setText(set) {
			return sample.Tree{Kind: 2, Set: set}, true
		}
	}
	return sample.Tree{Kind: strings.Index("tf", s)}, s == "t" || s == "f"
}

// readSlowly follows the words of Read.
func readSlowly(letters int, s string) ([]api.Node, api.Errno) {
	if letters < 1 || letters > 6 {
		return nil, api.ErrRange
	}
	if len(s) > 300 {
		return nil, api.ErrFull
	}
	x, is := treeOf(letters, strings.Join(strings.Split(s, " "), ""))
	if !is {
		return nil, api.ErrSyntax
	}
	if len(x.Nodes()) > 40 {
		return nil, api.ErrFull
	}
	return x.Nodes(), api.OK
}

// How tightly a text binds.
const (
	byOr = iota
	byAnd
	byUntil
	alone
)

// loose returns a text of a tree that binds at least as tightly as it has to, with
// parentheses where they have to be, and some where they can be.
func loose(x sample.Tree, below func(n int) int, least int) string {
	part := func(i, least int) string { return loose(x.Parts[i], below, least) }
	s, tightly := "", alone
	switch x.Kind {
	case 3, 6, 7:
		s = string("!  XW"[x.Kind-3]) + part(0, alone)
	case 4:
		s, tightly = part(0, byAnd)+"&"+part(1, byUntil), byAnd
	case 5:
		s, tightly = part(0, byOr)+"|"+part(1, byAnd), byOr
	case 8, 9:
		s, tightly = part(0, alone)+string("UR"[x.Kind-8])+part(1, byUntil), byUntil
	default:
		s = textOf(x)
	}
	for tightly < least || below(9) == 0 {
		s, tightly = "("+s+")", alone
	}
	return s
}

// spaced returns a text with spaces in it.
func spaced(below func(n int) int, s string) string {
	var b strings.Builder
	for _, one := range append(strings.Split(s, ""), "") {
		b.WriteString(strings.Repeat(" ", max(0, below(6)-3)))
		b.WriteString(one)
	}
	return b.String()
}

// equalTrees tells whether two trees are the same.
func equalTrees(x, y sample.Tree) bool {
	return x.Kind == y.Kind && x.Set == y.Set && slices.EqualFunc(x.Parts, y.Parts, equalTrees)
}
