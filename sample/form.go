package sample

import (
	"math"
	"slices"

	"stileward/api"
)

// FormCheck is a formula, and the error of form.Check for it.
type FormCheck struct {
	Name    string
	Letters int
	Form    []api.Node
	Want    api.Errno
}

// Node returns a node of a formula.
func Node(kind, a, b int) api.Node { return api.Node{Kind: kind, A: a, B: b} }

// Form returns the formula whose nodes follow each other in a text, as those of Word,
// with three bytes each.
func Form(text string) []api.Node {
	var f []api.Node
	for numbers := range slices.Chunk(Word(text), 3) {
		if len(numbers) == 3 {
			f = append(f, Node(numbers[0], numbers[1], numbers[2]))
		}
	}
	return f
}

// Operands tells how many operands a kind of nodes from 0 to 9 has.
func Operands(kind int) int {
	switch kind {
	case 3, 6, 7:
		return 1
	case 4, 5, 8, 9:
		return 2
	}
	return 0
}

// Stacked returns the formula of nodes of one kind, each of which has the one before it
// as its only operand, or as both. The first node is the given one.
func Stacked(nodes int, first api.Node, kind int) []api.Node {
	f := []api.Node{first}
	for at := range nodes - 1 {
		n := Node(kind, at, 0)
		if Operands(kind) == 2 {
			n.B = at
		}
		f = append(f, n)
	}
	return f
}

// MixedForm returns a formula of some nodes out of the numbers of Below. Several nodes
// can have one operand, and others can be part of nothing.
func MixedForm(seed uint64, letters, nodes int) []api.Node {
	below := Below(seed)
	var f []api.Node
	for at := range nodes {
		n := Node(below(10), 0, 0)
		if n.Kind <= 2 && below(2) == 0 {
			n.Kind = 3 + below(7)
		}
		if at == 0 {
			n.Kind = 2
		}
		if n.Kind == 2 {
			n.A = below(1 << letters)
		}
		if Operands(n.Kind) >= 1 {
			n.A = at - 1 - below(min(at, 4))
		}
		if Operands(n.Kind) == 2 {
			n.B = at - 1 - below(1+below(at))
		}
		f = append(f, n)
	}
	return f
}

// AllForms returns all formulas of some nodes.
func AllForms(letters, nodes int) [][]api.Node {
	all := [][]api.Node{nil}
	for at := range nodes {
		var longer [][]api.Node
		for _, f := range all {
			for _, n := range allNodes(letters, at) {
				longer = append(longer, append(slices.Clone(f), n))
			}
		}
		all = longer
	}
	return all
}

// allNodes returns all nodes that may be at a position of a formula.
func allNodes(letters, at int) []api.Node {
	nodes := []api.Node{Node(0, 0, 0), Node(1, 0, 0)}
	for set := range 1 << letters {
		nodes = append(nodes, Node(2, set, 0))
	}
	for kind := 3; kind <= 9; kind++ {
		for a := range at {
			if Operands(kind) == 1 {
				nodes = append(nodes, Node(kind, a, 0))
				continue
			}
			for b := range at {
				nodes = append(nodes, Node(kind, a, b))
			}
		}
	}
	return nodes
}

// RoomyForm returns a formula with memory behind its end that looks like more of it, and a
// function that tells whether the formula and that memory are still as they were.
func RoomyForm(f []api.Node) ([]api.Node, func() bool) {
	memory := append(slices.Clone(f), slices.Repeat([]api.Node{Node(0, 0, 0)}, len(f)+9)...)
	before := slices.Clone(memory)
	return memory[:len(f)], func() bool { return slices.Equal(memory, before) }
}

// SpoilForm writes a number that is no kind over the nodes of a formula and the memory
// behind its end. The function that it returns tells whether it is still everywhere there.
func SpoilForm(f []api.Node, number int) func() bool {
	nodes := f[:cap(f)]
	spoilt := Node(number, number, number)
	for i := range nodes {
		nodes[i] = spoilt
	}
	return func() bool {
		return !slices.ContainsFunc(nodes, func(n api.Node) bool { return n != spoilt })
	}
}

// FormChecks returns formulas with and without errors. They are for every function whose
// errors are those of form.Check, or begin with them.
func FormChecks() []FormCheck {
	return slices.Concat(goodForms(), badFormLetters(), badFormLengths(), badKinds(), badSets(), badOperands(), badSeveral())
}

// goodForms have no error.
func goodForms() []FormCheck {
	one := func(kind, a int) []api.Node { return []api.Node{Node(kind, a, 0)} }
	checks := []FormCheck{
		{"true", 1, one(0, 0), api.OK},
		{"false", 6, one(1, 0), api.OK},
		{"no letter of one", 1, one(2, 0), api.OK},
		{"the letter of one", 1, one(2, 1), api.OK},
		{"all letters of three", 3, one(2, 7), api.OK},
		{"all letters of six", 6, one(2, 63), api.OK},
		{"nodes that are part of nothing", 2, []api.Node{Node(2, 3, 0), Node(3, 0, 0), Node(1, 0, 0)}, api.OK},
		{"the second operand first", 2, []api.Node{Node(0, 0, 0), Node(2, 1, 0), Node(8, 1, 0)}, api.OK},
		{"an operand of several", 2, []api.Node{Node(2, 1, 0), Node(3, 0, 0), Node(6, 0, 0), Node(9, 2, 1)}, api.OK},
		{"39 nodes", 1, Stacked(39, Node(1, 0, 0), 7), api.OK},
		{"40 nodes", 6, Stacked(40, Node(2, 63, 0), 3), api.OK},
		{"40 nodes without operands", 2, slices.Repeat(one(2, 3), 40), api.OK},
		{"40 nodes that are each used twice", 2, Stacked(40, Node(2, 3, 0), 4), api.OK},
		{"no order", 3, MixedForm(1, 3, 7), api.OK},
		{"no order of many", 6, MixedForm(2, 6, 40), api.OK},
	}
	for kind := 3; kind <= 9; kind++ {
		checks = append(checks, FormCheck{"a kind", 1, Stacked(2, Node(0, 0, 0), kind), api.OK})
	}
	return checks
}

// badFormLetters have a wrong number of letters, and some of them other errors as well.
func badFormLetters() []FormCheck {
	var checks []FormCheck
	for _, letters := range []int{math.MinInt, -1 << 32, -256, -1, 0, 7, 8, 64, 256, 257, 1<<32 + 1, math.MaxInt} {
		checks = append(checks,
			FormCheck{"letters", letters, []api.Node{Node(0, 0, 0)}, api.ErrRange},
			FormCheck{"letters of a set", letters, []api.Node{Node(2, 1, 0)}, api.ErrRange},
			FormCheck{"letters of no node", letters, nil, api.ErrRange},
			FormCheck{"letters of 41 nodes", letters, Stacked(41, Node(0, 0, 0), 3), api.ErrRange},
			FormCheck{"letters of a node without its operand", letters, []api.Node{Node(3, 0, 0)}, api.ErrRange},
		)
	}
	return checks
}

// badFormLengths have no node or too many, and some of them other errors as well.
func badFormLengths() []FormCheck {
	first := func(n api.Node, nodes int) []api.Node {
		f := Stacked(nodes, Node(0, 0, 0), 3)
		f[0] = n
		return f
	}
	last := func(n api.Node, nodes int) []api.Node { return append(Stacked(nodes-1, Node(0, 0, 0), 3), n) }
	return []FormCheck{
		{"no node in nil", 1, nil, api.ErrShape},
		{"no node in a list", 6, []api.Node{}, api.ErrShape},
		{"41 nodes", 1, Stacked(41, Node(0, 0, 0), 3), api.ErrFull},
		{"41 nodes without operands", 6, make([]api.Node, 41), api.ErrFull},
		{"80 nodes", 6, make([]api.Node, 80), api.ErrFull},
		{"256 nodes", 1, make([]api.Node, 256), api.ErrFull},
		{"296 nodes", 1, make([]api.Node, 296), api.ErrFull},
		{"41 nodes, the first of them of no kind", 1, first(Node(10, 0, 0), 41), api.ErrFull},
		{"41 nodes, the first of them without its operand", 1, first(Node(3, 0, 0), 41), api.ErrFull},
		{"41 nodes, the last of them of no kind", 1, last(Node(-1, 0, 0), 41), api.ErrFull},
		{"41 nodes, the last of them with itself as operand", 1, last(Node(3, 40, 0), 41), api.ErrFull},
		{"40 nodes, the first of them of no kind", 1, first(Node(10, 0, 0), 40), api.ErrRange},
		{"40 nodes, the last of them of no kind", 1, last(Node(-1, 0, 0), 40), api.ErrRange},
		{"40 nodes, the first of them without its operand", 1, first(Node(3, 0, 0), 40), api.ErrShape},
		{"40 nodes, the last of them with itself as operand", 1, last(Node(3, 39, 0), 40), api.ErrShape},
	}
}

// badKinds have a node of no kind.
func badKinds() []FormCheck {
	var checks []FormCheck
	for _, kind := range []int{math.MinInt, -1 << 32, -256, -1, 10, 11, 12, 256, 1 << 32, 1<<32 + 3, math.MaxInt} {
		checks = append(checks,
			FormCheck{"a kind alone", 1, []api.Node{Node(kind, 0, 0)}, api.ErrRange},
			FormCheck{"a kind behind others", 2, []api.Node{Node(0, 0, 0), Node(2, 1, 0), Node(kind, 1, 0)}, api.ErrRange},
			FormCheck{"a kind that is part of nothing", 2, []api.Node{Node(0, 0, 0), Node(kind, 0, 0), Node(3, 0, 0)}, api.ErrRange},
			FormCheck{"a kind with itself as operand", 2, []api.Node{Node(kind, 0, -1)}, api.ErrRange},
		)
	}
	return checks
}

// badSets have an Is of what is no set of letters.
func badSets() []FormCheck {
	var checks []FormCheck
	for letters := 1; letters <= api.MaxLetters; letters++ {
		for _, set := range []int{math.MinInt, -1 << 32, -1 << letters, -1, 1 << letters, 1<<letters + 1, 64, 1 << 32, math.MaxInt} {
			checks = append(checks,
				FormCheck{"a set alone", letters, []api.Node{Node(2, set, 0)}, api.ErrRange},
				FormCheck{"a set that is part of nothing", letters, []api.Node{Node(2, set, 0), Node(0, 0, 0)}, api.ErrRange},
				FormCheck{"a set with an operand", letters, []api.Node{Node(0, 0, 0), Node(2, set, 1)}, api.ErrRange},
			)
		}
	}
	return checks
}

// badOperands have operands that are no earlier nodes, or that the kind does not have.
func badOperands() []FormCheck {
	var checks []FormCheck
	behind := func(n api.Node) {
		f := []api.Node{Node(0, 0, 0), Node(2, 1, 0), n}
		checks = append(checks,
			FormCheck{"an operand", 2, f, api.ErrShape},
			FormCheck{"an operand of what is part of nothing", 2, append(slices.Clone(f), Node(1, 0, 0)), api.ErrShape},
		)
	}
	for _, operand := range []int{math.MinInt, -1 << 32, -256, -1, 2, 3, 40, 256, 1 << 32, math.MaxInt} {
		for kind := 3; kind <= 9; kind++ {
			behind(Node(kind, operand, 0))
			behind(Node(kind, 0, operand))
		}
	}
	for _, operand := range []int{math.MinInt, -1 << 32, -1, 1, 2, 1 << 32, math.MaxInt} {
		for kind := range 2 {
			behind(Node(kind, operand, 0))
			behind(Node(kind, 0, operand))
			behind(Node(kind, operand, operand))
		}
		for _, kind := range []int{2, 3, 6, 7} {
			behind(Node(kind, 0, operand))
			behind(Node(kind, 1, operand))
		}
	}
	for kind := 3; kind <= 9; kind++ {
		checks = append(checks, FormCheck{"no operand", 1, []api.Node{Node(kind, 0, 0)}, api.ErrShape})
	}
	return checks
}

// badSeveral have several errors, of which the first one decides.
func badSeveral() []FormCheck {
	return []FormCheck{
		{"an operand, and behind it a kind", 1, []api.Node{Node(3, 0, 0), Node(10, 0, 0)}, api.ErrShape},
		{"a kind, and behind it an operand", 1, []api.Node{Node(10, 0, 0), Node(3, 1, 0)}, api.ErrRange},
		{"an operand, and behind it a set", 1, []api.Node{Node(0, 1, 0), Node(2, 2, 0)}, api.ErrShape},
		{"a set, and behind it an operand", 1, []api.Node{Node(2, 2, 0), Node(0, 1, 0)}, api.ErrRange},
		{"a needless operand, and behind it a kind", 1, []api.Node{Node(2, 1, 1), Node(-1, 0, 0)}, api.ErrShape},
		{"a kind, and behind it a needless operand", 1, []api.Node{Node(-1, 0, 0), Node(2, 1, 1)}, api.ErrRange},
	}
}

// LongForms returns formulas that have errors of form.Check, and long lists.
func LongForms() []FormCheck {
	const long = 1 << 24
	return []FormCheck{
		{"long list", 1, make([]api.Node, long), api.ErrFull},
		{"long list without letters", 0, make([]api.Node, long), api.ErrRange},
	}
}
