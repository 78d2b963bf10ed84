package mean_test

import (
	"stileward/api"
	"stileward/form"
	"stileward/plain"
	"stileward/sample"
	"stileward/word"
)

// What is here follows the words of chapter 11 one by one, without the package it tests.

// wrongOf follows the words of the errors of Holds and Values.
func wrongOf(letters int, f []api.Node, w []int) api.Errno {
	if err := form.Check(letters, f); err != nil {
		return plain.Told(err)
	}
	return plain.Told(word.Check(letters, w))
}

// until tells whether Until holds for the suffix without the first i letters, out of the
// values of its operands for all suffixes, the last of which is the empty one.
func until(a, b []bool, i int) bool {
	for short := i; short < len(b)-1; short++ {
		holds := b[short]
		for longer := i; longer < short; longer++ {
			holds = holds && a[longer]
		}
		if holds {
			return true
		}
	}
	return false
}

// negations returns the negation of each value.
func negations(values []bool) []bool {
	not := make([]bool, len(values))
	for i, value := range values {
		not[i] = !value
	}
	return not
}

// holds tells whether a node holds for the suffix without the first i letters, out of the
// values of the earlier nodes for all suffixes.
func holds(n api.Node, of [][]bool, w []int, i int) bool {
	isEmpty := i == len(w)
	switch n.Kind {
	case 0:
		return true
	case 2:
		return !isEmpty && n.A>>w[i]%2 == 1
	case 3:
		return !of[n.A][i]
	case 4:
		return of[n.A][i] && of[n.B][i]
	case 5:
		return of[n.A][i] || of[n.B][i]
	case 6:
		return !isEmpty && of[n.A][i+1]
	case 7:
		return isEmpty || of[n.A][i+1]
	case 8:
		return until(of[n.A], of[n.B], i)
	case 9:
		return !until(negations(of[n.A]), negations(of[n.B]), i)
	}
	return false
}

// valuesSlowly follows the words of Values: node by node, of each for all suffixes.
func valuesSlowly(letters int, f []api.Node, w []int) ([]bool, api.Errno) {
	if wrong := wrongOf(letters, f, w); wrong != api.OK {
		return nil, wrong
	}
	var of [][]bool
	var values []bool
	for _, n := range f {
		suffixes := make([]bool, len(w)+1)
		for i := range suffixes {
			suffixes[i] = holds(n, of, w, i)
		}
		of = append(of, suffixes)
		values = append(values, suffixes[0])
	}
	return values, api.OK
}

// plainSize returns how many nodes Plain would return.
func plainSize(f []api.Node) int {
	var sizes, negated []int
	for _, n := range f {
		size := 1
		operands := []int{n.A, n.B}[:sample.Operands(n.Kind)]
		negatedSize := size
		for _, operand := range operands {
			size += sizes[operand]
			negatedSize += negated[operand]
		}
		switch n.Kind {
		case 2:
			negatedSize = 2
		case 3:
			size, negatedSize = negated[n.A], sizes[n.A]
		}
		sizes, negated = append(sizes, size), append(negated, negatedSize)
	}
	return sizes[len(f)-1]
}

// not returns the tree of a Not.
func not(x sample.Tree) sample.Tree { return sample.Tree{Kind: 3, Parts: []sample.Tree{x}} }

// pushed returns a tree in which each Not is pushed down, past one node after the other,
// until it meets another one, or True or False, or is directly above an Is.
func pushed(x sample.Tree) sample.Tree {
	if x.Kind == 3 && x.Parts[0].Kind == 2 {
		return x
	}
	if x.Kind == 3 && x.Parts[0].Kind == 3 {
		return pushed(x.Parts[0].Parts[0])
	}
	y := sample.Tree{Kind: x.Kind, Set: x.Set, Parts: x.Parts}
	if x.Kind == 3 {
		below := x.Parts[0]
		y = sample.Tree{Kind: map[int]int{0: 1, 1: 0, 4: 5, 5: 4, 6: 7, 7: 6, 8: 9, 9: 8}[below.Kind]}
		for _, part := range below.Parts {
			y.Parts = append(y.Parts, not(part))
		}
	}
	z := sample.Tree{Kind: y.Kind, Set: y.Set}
	for _, part := range y.Parts {
		z.Parts = append(z.Parts, pushed(part))
	}
	return z
}

// plainSlowly follows the words of Plain.
func plainSlowly(letters int, f []api.Node) ([]api.Node, api.Errno) {
	if err := form.Check(letters, f); err != nil {
		return nil, plain.Told(err)
	}
	if plainSize(f) > 40 {
		return nil, api.ErrFull
	}
	return pushed(sample.Unfold(f, len(f)-1)).Nodes(), api.OK
}
