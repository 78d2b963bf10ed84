package sample

import "stileward/api"

// Tree is a formula: its kind, its set (of Is), and its operands.
type Tree struct {
	Kind, Set int
	Parts     []Tree
}

// Unfold returns the tree of a node. It may be far larger than the list.
func Unfold(f []api.Node, at int) Tree {
	n := f[at]
	if n.Kind == 2 {
		return Tree{Kind: 2, Set: n.A}
	}
	x := Tree{Kind: n.Kind}
	for _, operand := range []int{n.A, n.B}[:Operands(n.Kind)] {
		x.Parts = append(x.Parts, Unfold(f, operand))
	}
	return x
}

// Nodes follows the words of the order of the nodes: those of A, those of B, the node itself.
func (x Tree) Nodes() []api.Node { return x.behind(nil) }

// behind appends the nodes of a tree to others.
func (x Tree) behind(f []api.Node) []api.Node {
	operands := []int{x.Set, 0}
	for i, part := range x.Parts {
		f = part.behind(f)
		operands[i] = len(f) - 1
	}
	return append(f, Node(x.Kind, operands[0], operands[1]))
}

// MixedTree returns a tree of some nodes out of the numbers of Below.
func MixedTree(below func(n int) int, letters, nodes int) Tree {
	switch {
	case nodes == 1 && below(3) > 0:
		return Tree{Kind: 2, Set: below(1 << letters)}
	case nodes == 1:
		return Tree{Kind: below(2)}
	case nodes == 2 || below(3) == 0:
		return Tree{Kind: []int{3, 6, 7}[below(3)], Parts: []Tree{MixedTree(below, letters, nodes-1)}}
	}
	first := 1 + below(nodes-2)
	kind := []int{4, 5, 8, 9}[below(4)]
	a := MixedTree(below, letters, first)
	b := MixedTree(below, letters, nodes-1-first)
	return Tree{Kind: kind, Parts: []Tree{a, b}}
}
