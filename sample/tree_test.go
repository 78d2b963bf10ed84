package sample_test

import (
	"slices"
	"testing"

	"stileward/api"
	"stileward/sample"
)

// Unfold has an operand of several nodes several times, and Nodes has the nodes behind their operands.
func TestUnfold(t *testing.T) {
	node := sample.Node
	shared := []api.Node{node(2, 5, 0), node(6, 0, 0), node(9, 1, 0), node(4, 2, 2)}
	cases := []struct {
		f    []api.Node
		at   int
		want []api.Node
	}{
		{[]api.Node{node(1, 0, 0)}, 0, []api.Node{node(1, 0, 0)}},
		{someForm(), 0, []api.Node{node(2, 5, 0)}},
		{someForm(), 1, []api.Node{node(2, 5, 0), node(6, 0, 0)}},
		{someForm(), 2, []api.Node{node(2, 5, 0), node(6, 0, 0), node(2, 5, 0), node(9, 1, 2)}},
		{shared, 3, []api.Node{
			node(2, 5, 0), node(6, 0, 0), node(2, 5, 0), node(9, 1, 2),
			node(2, 5, 0), node(6, 4, 0), node(2, 5, 0), node(9, 5, 6), node(4, 3, 7),
		}},
	}
	for _, c := range cases {
		if got := sample.Unfold(c.f, c.at).Nodes(); !slices.Equal(got, c.want) {
			t.Errorf("the nodes of node %d of %v are %v, want %v", c.at, c.f, got, c.want)
		}
	}
	x := sample.Unfold(someForm(), 2)
	if x.Kind != 9 || len(x.Parts) != 2 || x.Parts[0].Kind != 6 || x.Parts[1].Kind != 2 || x.Parts[1].Set != 5 {
		t.Errorf("the tree of %v is %v", someForm(), x)
	}
}

// MixedTree is the same for the same seed, and a formula with as many nodes and all kinds.
func TestMixedTree(t *testing.T) {
	kinds := map[int]bool{}
	for seed := range uint64(200) {
		nodes := 1 + int(seed)%40
		f := sample.MixedTree(sample.Below(seed), 3, nodes).Nodes()
		if !slices.Equal(f, sample.MixedTree(sample.Below(seed), 3, nodes).Nodes()) {
			t.Errorf("MixedTree of %d is not always the same", seed)
		}
		if len(f) != nodes || !isFormula(3, f) {
			t.Errorf("MixedTree of %d and %d nodes has the nodes %v", seed, nodes, f)
		}
		for _, n := range f {
			kinds[n.Kind] = true
		}
	}
	if len(kinds) != 10 {
		t.Errorf("there are %d kinds", len(kinds))
	}
}
