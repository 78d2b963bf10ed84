package past_test

import (
	"math"
	"slices"
	"testing"

	"stileward/api"
	"stileward/form"
	"stileward/sample"
)

// backKinds has the kinds that look back in place of those that look ahead, and the other way
// round, with as many operands each.
func backKinds() map[int]int {
	return map[int]int{6: 10, 7: 10, 8: 11, 9: 11, 10: 6, 11: 8, 12: 9}
}

// turned returns a list of nodes that looks back where the given one looks ahead.
func turned(f []api.Node) []api.Node {
	f = slices.Clone(f)
	kinds := backKinds()
	for i, n := range f {
		if kind, found := kinds[n.Kind]; found {
			f[i].Kind = kind
		}
	}
	return f
}

// read returns the formula over three letters of a text with X for Last and U for Since.
func read(t *testing.T, text string) []api.Node {
	t.Helper()
	f, err := form.Read(3, text)
	if err != nil {
		t.Fatalf("Read(3, %q) = %v", text, err)
	}
	return turned(f)
}

// allForms returns all formulas of some nodes.
func allForms(letters, nodes int) [][]api.Node {
	var all [][]api.Node
	for _, f := range sample.AllForms(letters, nodes) {
		// There is one kind that looks back for two that look ahead.
		if !slices.ContainsFunc(f, func(n api.Node) bool { return n.Kind == 7 || n.Kind == 9 }) {
			all = append(all, turned(f))
		}
	}
	return all
}

// checks returns formulas with and without errors of Check.
func checks() []sample.FormCheck {
	var all []sample.FormCheck
	for _, c := range sample.FormChecks() {
		c.Form = turned(c.Form)
		all = append(all, c)
	}
	return slices.Concat(all, aheadKinds())
}

// aheadKinds have a node that looks ahead, and some of them other errors as well.
func aheadKinds() []sample.FormCheck {
	node := sample.Node
	var all []sample.FormCheck
	for kind := 6; kind <= 9; kind++ {
		b := sample.Operands(kind) - 1
		all = append(all,
			sample.FormCheck{Name: "ahead", Letters: 1, Form: []api.Node{node(0, 0, 0), node(kind, 0, 0)}, Want: api.ErrRange},
			sample.FormCheck{Name: "ahead, and behind it back", Letters: 2, Form: []api.Node{node(2, 3, 0), node(2, 1, 0), node(kind, 0, b), node(10, 2, 0)}, Want: api.ErrRange},
			sample.FormCheck{Name: "ahead, and part of nothing", Letters: 2, Form: []api.Node{node(2, 3, 0), node(2, 1, 0), node(kind, 1, b), node(11, 0, 1)}, Want: api.ErrRange},
			sample.FormCheck{Name: "ahead without operands", Letters: 6, Form: []api.Node{node(kind, 0, 0)}, Want: api.ErrRange},
			sample.FormCheck{Name: "ahead with operands far away", Letters: 6, Form: []api.Node{node(kind, math.MaxInt, math.MinInt)}, Want: api.ErrRange},
			sample.FormCheck{Name: "ahead, and behind it an operand", Letters: 1, Form: []api.Node{node(0, 0, 0), node(kind, 0, 0), node(10, 2, 0)}, Want: api.ErrRange},
			sample.FormCheck{Name: "an operand, and behind it ahead", Letters: 1, Form: []api.Node{node(10, 0, 0), node(kind, 0, 0)}, Want: api.ErrShape},
			sample.FormCheck{Name: "41 nodes, one of them ahead", Letters: 1, Form: append(make([]api.Node, 40), node(kind, 0, 0)), Want: api.ErrFull},
			sample.FormCheck{Name: "ahead without letters", Letters: 0, Form: []api.Node{node(0, 0, 0), node(kind, 0, 0)}, Want: api.ErrRange},
		)
	}
	return all
}
