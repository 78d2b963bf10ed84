package sample_test

import (
	"slices"
	"testing"

	"stileward/api"
	"stileward/sample"
)

// isFormula tells whether all operands of all nodes are earlier ones, all sets are sets of
// letters, and all else is 0.
func isFormula(letters int, f []api.Node) bool {
	for at, n := range f {
		operands := []int{n.A, n.B}[:sample.Operands(n.Kind)]
		unused := []int{n.A, n.B}[sample.Operands(n.Kind):]
		if n.Kind == 2 {
			unused = unused[1:]
		}
		isNone := func(operand int) bool { return operand < 0 || operand >= at }
		isUsed := func(operand int) bool { return operand != 0 }
		if n.Kind < 0 || n.Kind > 9 || slices.ContainsFunc(operands, isNone) || slices.ContainsFunc(unused, isUsed) {
			return false
		}
		if n.Kind == 2 && (n.A < 0 || n.A >= 1<<letters) {
			return false
		}
	}
	return true
}

// someForm is a formula in which every node differs from every other one.
func someForm() []api.Node {
	return []api.Node{sample.Node(2, 5, 0), sample.Node(6, 0, 0), sample.Node(9, 1, 0)}
}

// Form has a node for each three bytes.
func TestForm(t *testing.T) {
	cases := []struct {
		text string
		want []api.Node
	}{
		{"", nil},
		{"\x02\x05\x00", someForm()[:1]},
		{"\x02\x05\x00\x06\x00\x00\x09\x01\x00", someForm()},
		{"\x02\x05\x00\x06\x00", someForm()[:1]},
		{"\xff\x80\x7f", []api.Node{{Kind: -1, A: -128, B: 127}}},
	}
	for _, c := range cases {
		if got := sample.Form(c.text); !slices.Equal(got, c.want) {
			t.Errorf("Form(%q) = %v, want %v", c.text, got, c.want)
		}
	}
}

// Stacked has each node above the one before it.
func TestStacked(t *testing.T) {
	first := sample.Node(2, 1, 0)
	cases := []struct {
		nodes, kind int
		want        []api.Node
	}{
		{1, 3, []api.Node{first}},
		{3, 3, []api.Node{first, {Kind: 3, A: 0}, {Kind: 3, A: 1}}},
		{3, 8, []api.Node{first, {Kind: 8, A: 0, B: 0}, {Kind: 8, A: 1, B: 1}}},
	}
	for _, c := range cases {
		if got := sample.Stacked(c.nodes, first, c.kind); !slices.Equal(got, c.want) {
			t.Errorf("Stacked(%d, %v, %d) = %v, want %v", c.nodes, first, c.kind, got, c.want)
		}
	}
}

// MixedForm is the same for the same seed, and another one for others, and a formula with all kinds.
func TestMixedForm(t *testing.T) {
	found := map[[5]api.Node]bool{}
	kinds := map[int]bool{}
	for seed := range uint64(100) {
		f := sample.MixedForm(seed, 3, 5)
		if !slices.Equal(f, sample.MixedForm(seed, 3, 5)) {
			t.Errorf("MixedForm(%d, 3, 5) is not always the same", seed)
		}
		if len(f) != 5 || !isFormula(3, f) {
			t.Errorf("MixedForm(%d, 3, 5) = %v", seed, f)
		}
		found[[5]api.Node(f)] = true
		for _, n := range f {
			kinds[n.Kind] = true
		}
	}
	if len(found) < 99 || len(kinds) != 10 {
		t.Errorf("there are %d formulas of 100 seeds, with %d kinds", len(found), len(kinds))
	}
	if f := sample.MixedForm(4, 6, 40); len(f) != 40 || !isFormula(6, f) {
		t.Errorf("MixedForm(4, 6, 40) = %v", f)
	}
}

// AllForms has each formula once.
func TestAllForms(t *testing.T) {
	cases := []struct{ letters, nodes, want int }{
		{1, 0, 1},
		{1, 1, 4},
		{6, 1, 66},
		{1, 2, 4 * (4 + 3 + 4)},
		{2, 3, 6 * (6 + 3 + 4) * (6 + 3*2 + 4*4)},
	}
	for _, c := range cases {
		all := sample.AllForms(c.letters, c.nodes)
		found := map[[3]api.Node]bool{}
		for _, f := range all {
			if len(f) != c.nodes || !isFormula(c.letters, f) {
				t.Errorf("AllForms(%d, %d) has %v", c.letters, c.nodes, f)
			}
			var key [3]api.Node
			copy(key[:], f)
			found[key] = true
		}
		if len(all) != c.want || len(found) != c.want {
			t.Errorf("AllForms(%d, %d) has %d, of them %d different ones, want %d", c.letters, c.nodes, len(all), len(found), c.want)
		}
	}
}

// RoomyForm has the formula with memory behind it, and tells of each change.
func TestRoomyForm(t *testing.T) {
	for _, f := range [][]api.Node{nil, someForm()[:1], someForm()} {
		got, intact := sample.RoomyForm(f)
		if !slices.Equal(got, f) || cap(got) <= len(got) || !intact() {
			t.Fatalf("RoomyForm(%v) = %v with %d nodes of memory, intact: %v", f, got, cap(got), intact())
		}
		memory := got[:2*len(f)+9]
		for i := range memory {
			memory[i].B++
			if intact() {
				t.Errorf("a change of node %d of %v is not seen", i, f)
			}
			memory[i].B--
		}
	}
}

// SpoilForm tells of memory that two formulas share.
func TestSpoilForm(t *testing.T) {
	f, g := someForm(), someForm()
	first, second := sample.SpoilForm(f, -100), sample.SpoilForm(g, -201)
	if !first() || !second() {
		t.Errorf("memory of two formulas is said to be shared")
	}
	for _, shared := range [][]api.Node{f, f[:0], f[2:]} {
		first = sample.SpoilForm(f, -100)
		if sample.SpoilForm(shared, -201); first() {
			t.Errorf("memory that %d nodes share is not seen", cap(shared))
		}
	}
	if !sample.SpoilForm(nil, -100)() {
		t.Errorf("nothing is said to share memory")
	}
}

// FormChecks has formulas with each error of form.Check and with none.
func TestFormChecks(t *testing.T) {
	found := map[api.Errno]int{}
	for _, c := range sample.FormChecks() {
		found[c.Want]++
		isGood := c.Letters >= 1 && c.Letters <= 6 && len(c.Form) >= 1 && len(c.Form) <= 40 && isFormula(c.Letters, c.Form)
		if isGood != (c.Want == api.OK) {
			t.Errorf("%s: the formula of %d letters is %v, and the error is %v", c.Name, c.Letters, c.Form, c.Want)
		}
	}
	if len(found) != 4 || found[api.OK] == 0 || found[api.ErrRange] == 0 || found[api.ErrFull] == 0 || found[api.ErrShape] == 0 {
		t.Errorf("the formulas have these errors: %v", found)
	}
}

// LongForms has long lists.
func TestLongForms(t *testing.T) {
	for _, c := range sample.LongForms() {
		if len(c.Form) < 1<<24 || c.Want == api.OK {
			t.Errorf("%s: the list has %d nodes, and the error is %v", c.Name, len(c.Form), c.Want)
		}
	}
}
