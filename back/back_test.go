package back_test

import (
	"fmt"
	"strings"
	"testing"

	"stileward/api"
	"stileward/back"
	"stileward/dfa"
	"stileward/form"
	"stileward/mean"
	"stileward/plain"
	"stileward/sample"
	"stileward/small"
)

// read returns the formula of a text.
func read(t *testing.T, letters int, text string) []api.Node {
	t.Helper()
	f, err := form.Read(letters, text)
	if err != nil {
		t.Fatalf("Read(%d, %q) = %v", letters, text, err)
	}
	return f
}

// 12.1: the states are the lists of values, numbered as they are found, the letters of each in order.
func TestBack(t *testing.T) {
	// Behind each case are the lists of its states.
	cases := []struct {
		letters int
		text    string
		next    [][]int
		final   string
	}{
		{3, "t", [][]int{{0, 0, 0}}, "+"},                                                        // 1
		{2, "f", [][]int{{0, 0}}, "-"},                                                           // 0
		{6, "[]", [][]int{{0, 0, 0, 0, 0, 0}}, "-"},                                              // 0
		{1, "[0]", [][]int{{1}, {1}}, "-+"},                                                      // 0 1
		{2, "[0]", [][]int{{1, 0}, {1, 0}}, "-+"},                                                // 0 1
		{2, "[1]", [][]int{{0, 1}, {0, 1}}, "-+"},                                                // 0 1
		{2, "[01]", [][]int{{1, 1}, {1, 1}}, "-+"},                                               // 0 1
		{6, "[5]", [][]int{{0, 0, 0, 0, 0, 1}, {0, 0, 0, 0, 0, 1}}, "-+"},                        // 0 1
		{2, "![1]", [][]int{{0, 1}, {0, 1}}, "+-"},                                               // 01 10
		{1, "!![0]", [][]int{{1}, {1}}, "-+"},                                                    // 010 101
		{1, "Xt", [][]int{{1}, {1}}, "-+"},                                                       // 10 11
		{1, "Wf", [][]int{{1}, {1}}, "+-"},                                                       // 01 00
		{1, "Xf", [][]int{{0}}, "-"},                                                             // 00
		{1, "Wt", [][]int{{0}}, "+"},                                                             // 11
		{1, "XXt", [][]int{{1}, {2}, {2}}, "--+"},                                                // 100 110 111
		{1, "XWf", [][]int{{1}, {2}, {2}}, "-+-"},                                                // 010 001 000
		{2, "X[1]", [][]int{{0, 1}, {2, 3}, {0, 1}, {2, 3}}, "--++"},                             // 00 10 01 11
		{2, "W[1]", [][]int{{1, 2}, {1, 2}, {0, 3}, {0, 3}}, "+--+"},                             // 01 00 10 11
		{2, "X[0]", [][]int{{1, 0}, {2, 3}, {2, 3}, {1, 0}}, "--++"},                             // 00 10 11 01
		{2, "[0]&X[1]", [][]int{{1, 2}, {1, 2}, {3, 4}, {1, 2}, {3, 4}}, "---+-"},                // 0000 1000 0100 1011 0110
		{2, "[0]|[1]", [][]int{{1, 2}, {1, 2}, {1, 2}}, "-++"},                                   // 000 101 011
		{3, "[0]U[1]", [][]int{{1, 2, 0}, {1, 2, 0}, {3, 2, 0}, {3, 2, 0}}, "--++"},              // 000 100 011 101
		{3, "[0]R[01]", [][]int{{1, 2, 3}, {1, 2, 3}, {1, 2, 3}, {1, 4, 3}, {1, 4, 3}}, "+++--"}, // 001 111 011 000 010
		{1, "fUt", [][]int{{1}, {1}}, "-+"},                                                      // 010 011
		{1, "tRf", [][]int{{1}, {1}}, "+-"},                                                      // 101 100
	}
	for _, c := range cases {
		want := api.Dfa{Letters: c.letters, Next: c.next, Final: sample.Pluses(c.final)}
		f := read(t, c.letters, c.text)
		if got, err := back.Back(c.letters, f); !sample.EqualDfas(got, want) || err != nil {
			t.Errorf("Back of %q over %d letters = %v, %v, want %v", c.text, c.letters, got, err, want)
		}
		checkBoth(t, c.letters, f)
	}
}

// 12.1: states are told apart by the values of all nodes, even of those that are part of nothing,
// and a state is final if the last node holds.
func TestBackAllNodes(t *testing.T) {
	node := sample.Node
	cases := []struct {
		f     []api.Node
		next  [][]int
		final string
	}{
		{[]api.Node{node(2, 2, 0), node(0, 0, 0)}, [][]int{{0, 1}, {0, 1}}, "++"},
		{[]api.Node{node(2, 2, 0), node(1, 0, 0)}, [][]int{{0, 1}, {0, 1}}, "--"},
		{[]api.Node{node(0, 0, 0), node(2, 2, 0)}, [][]int{{0, 1}, {0, 1}}, "-+"},
		{[]api.Node{node(0, 0, 0), node(6, 0, 0), node(2, 2, 0)}, [][]int{{1, 2}, {1, 2}, {1, 2}}, "--+"},
		{[]api.Node{node(2, 2, 0), node(2, 1, 0), node(4, 0, 1)}, [][]int{{1, 2}, {1, 2}, {1, 2}}, "---"},
		{[]api.Node{node(2, 2, 0), node(6, 0, 0), node(2, 0, 0)}, [][]int{{0, 1}, {2, 3}, {0, 1}, {2, 3}}, "----"},
		{[]api.Node{node(2, 2, 0), node(2, 2, 0), node(5, 0, 1)}, [][]int{{0, 1}, {0, 1}}, "-+"},
	}
	for _, c := range cases {
		want := api.Dfa{Letters: 2, Next: c.next, Final: sample.Pluses(c.final)}
		if got, err := back.Back(2, c.f); !sample.EqualDfas(got, want) || err != nil {
			t.Errorf("Back(2, %v) = %v, %v, want %v", c.f, got, err, want)
		}
		checkBoth(t, 2, c.f)
	}
}

// checkBoth demands of Back and Make what their words say.
func checkBoth(t *testing.T, letters int, f []api.Node) {
	t.Helper()
	want, wrong := backSlowly(letters, f)
	if got, err := back.Back(letters, f); !sample.EqualDfas(got, want) || plain.Told(err) != wrong {
		t.Errorf("Back(%d, %v) = %v, %v, want %v, %v", letters, f, got, err, want, wrong)
	}
	want, wrong = makeSlowly(letters, f)
	if got, err := back.Make(letters, f); !sample.EqualDfas(got, want) || plain.Told(err) != wrong {
		t.Errorf("Make(%d, %v) = %v, %v, want %v, %v", letters, f, got, err, want, wrong)
	}
}

// checkWords demands that Back is in one state behind all words with the same values and in
// another one behind others, and that Back and Make accept the words for which a formula holds.
func checkWords(t *testing.T, letters int, f []api.Node, words [][]int) {
	t.Helper()
	backwards, err := back.Back(letters, f)
	if err != nil {
		return
	}
	forwards, wrong := back.Make(letters, f)
	states, lists := map[string]int{}, map[int]string{}
	for _, w := range words {
		values := valuesOf(letters, f, mirrored(w))
		list, holds := fmt.Sprint(values), values[len(f)-1]
		s, err := dfa.Run(backwards, backwards.Start, mirrored(w))
		if _, known := states[list]; !known {
			states[list] = s
		}
		if _, known := lists[s]; !known {
			lists[s] = list
		}
		if states[list] != s || lists[s] != list || backwards.Final[s] != holds || err != nil {
			t.Errorf("Back(%d, %v) = %v is by %v in state %d, %v, where the values are %v", letters, f, backwards, w, s, err, list)
		}
		if wrong != nil {
			continue
		}
		if is, err := dfa.Accepts(forwards, w); is != holds || err != nil {
			t.Errorf("Make(%d, %v) = %v accepts %v: %v, %v, want %v", letters, f, forwards, w, is, err, holds)
		}
	}
}

// 12.1, 12.2: Back and Make of all small formulas are what the words say, and accept the right words.
func TestAll(t *testing.T) {
	cases := []struct{ letters, nodes, length int }{{1, 1, 3}, {6, 1, 2}, {1, 2, 4}, {3, 2, 3}, {1, 3, 5}, {2, 3, 3}}
	for _, c := range cases {
		words := sample.Words(c.length, c.letters)
		for _, f := range sample.AllForms(c.letters, c.nodes) {
			checkBoth(t, c.letters, f)
			checkWords(t, c.letters, f, words)
		}
	}
}

// 12.1, 12.2: Back and Make of formulas of all sizes are what the words say, and accept the right words.
func TestMixed(t *testing.T) {
	var states, made [42]int
	for seed := range uint64(2500) {
		below := sample.Below(seed)
		letters, nodes := 1+below(6), 1+below(40)
		f := sample.MixedForm(seed, letters, nodes)
		if seed%2 == 0 {
			f = sample.MixedTree(below, letters, nodes).Nodes()
		}
		checkBoth(t, letters, f)
		checkWords(t, letters, f, sample.Words(2, letters))
		d, err := back.Back(letters, f)
		if err != nil {
			states[41]++
			continue
		}
		states[len(d.Next)]++
		d, _ = back.Make(letters, f)
		made[len(d.Next)]++
	}
	for n := 1; n <= 41; n++ {
		if states[n] == 0 || n <= 10 && made[n] == 0 {
			t.Errorf("automata have these numbers of states: %v, and %v", states, made)
			break
		}
	}
}

// 12.1, 12.2: an automaton knows of a long word what it must.
func TestLongWords(t *testing.T) {
	ones := func(n int) []int { return sample.Repeated(n, 1) }
	var words [][]int
	for _, length := range []int{1, 2, 7, 30, 79, 80} {
		for at := range length {
			words = append(words, sample.Replaced(ones(length), at, 0), sample.Replaced(sample.Repeated(length, 0), at, 1))
		}
	}
	for _, text := range []string{"tU([1]&XXXXWf)", "fR([1]|XX[1])", "[1]U(X[0]&WXf)", "XXXXXXX[1]", "WWWWWWWW[1]", "[1]RXX[1]"} {
		checkWords(t, 2, read(t, 2, text), words)
	}
}

// checkSizes demands of Back and Make as many states, or ErrFull if there are more than 40.
func checkSizes(t *testing.T, letters int, f []api.Node, states, made int) {
	t.Helper()
	checkBoth(t, letters, f)
	check := func(name string, d api.Dfa, err error, size int) {
		t.Helper()
		want := api.OK
		if size > 40 {
			size, want = 0, api.ErrFull
		}
		if len(d.Next) != size || plain.Told(err) != want || err != nil && !sample.EqualDfas(d, api.Dfa{}) {
			t.Errorf("%s(%d, %v) = %v, %v, want %d states, %v", name, letters, f, d, err, size, want)
		}
	}
	d, err := back.Back(letters, f)
	check("Back", d, err, states)
	if err != nil {
		made = 41
	}
	d, err = back.Make(letters, f)
	check("Make", d, err, made)
}

// 12.1: there are at most 40 lists of values, and of each letter all are found.
func TestBackFull(t *testing.T) {
	for letters := 1; letters <= 6; letters++ {
		all := 1<<letters - 1
		for nodes := 1; nodes <= 40; nodes++ {
			// Behind its operands, a Next holds for words of a letter more, and False for none.
			checkSizes(t, letters, sample.Stacked(nodes, sample.Node(0, 0, 0), 6), nodes, nodes)
			checkSizes(t, letters, sample.Stacked(nodes, sample.Node(2, all, 0), 6), nodes+1, nodes+1)
			checkSizes(t, letters, sample.Stacked(nodes, sample.Node(1, 0, 0), 7), nodes, nodes)
			checkSizes(t, letters, sample.Stacked(nodes, sample.Node(0, 0, 0), 7), 1, 1)
		}
	}
	for nodes := 1; nodes <= 40; nodes++ {
		f := sample.Stacked(nodes, sample.Node(2, 1, 0), 6)
		states := 1 << min(nodes, 7)
		checkSizes(t, 2, f, states, nodes+2)
		checkSizes(t, 6, f, states, nodes+2)
	}
}

// 12.2: there are at most 40 states in the result, however few there are in that of Back.
func TestMakeFull(t *testing.T) {
	for far := 1; far <= 8; far++ {
		for later := range 20 {
			// The letter that is as far from the end is 1; this takes a state for each word of
			// as many letters. Each letter before that takes a state more.
			f := read(t, 2, strings.Repeat("X", later)+"(tU([1]&"+strings.Repeat("X", far)+"Wf))")
			states, made := 5+2*far, 1<<far+later
			if later > 1 {
				states += 2 * (later - 1)
			}
			checkSizes(t, 2, f, states, made)
			checkSizes(t, 2, append(f, sample.Node(3, len(f)-1, 0)), states, made)
		}
	}
}

// 12.2: Make is what is made of the mirror of Back, with the states in the order in which they are found.
func TestMake(t *testing.T) {
	cases := []struct {
		letters int
		text    string
		next    [][]int
		final   string
	}{
		{2, "t", [][]int{{0, 0}}, "+"},
		{2, "f", [][]int{{0, 0}}, "-"},
		{3, "[]", [][]int{{0, 0, 0}}, "-"},
		{1, "[0]", [][]int{{1}, {1}}, "-+"},
		{2, "[1]", [][]int{{1, 2}, {1, 1}, {2, 2}}, "--+"},
		{2, "[0]", [][]int{{1, 2}, {1, 1}, {2, 2}}, "-+-"},
		{2, "![0]", [][]int{{1, 2}, {1, 1}, {2, 2}}, "+-+"},
		{2, "[01]", [][]int{{1, 1}, {1, 1}}, "-+"},
		{1, "Xt", [][]int{{1}, {1}}, "-+"},
		{1, "Wf", [][]int{{1}, {1}}, "+-"},
		{1, "XXt", [][]int{{1}, {2}, {2}}, "--+"},
		{2, "X[1]", [][]int{{1, 1}, {2, 3}, {2, 2}, {3, 3}}, "---+"},
		{2, "W[1]", [][]int{{1, 1}, {2, 3}, {2, 2}, {3, 3}}, "+--+"},
		{2, "[0]&X[1]", [][]int{{1, 2}, {2, 3}, {2, 2}, {3, 3}}, "---+"},
		{3, "[0]U[1]", [][]int{{0, 1, 2}, {1, 1, 1}, {2, 2, 2}}, "-+-"},
		{3, "[0]R[01]", [][]int{{1, 0, 2}, {1, 1, 1}, {2, 2, 2}}, "++-"},
		{3, "fR[01]", [][]int{{0, 0, 1}, {1, 1, 1}}, "+-"},
		{3, "tU[1]", [][]int{{0, 1, 0}, {1, 1, 1}}, "-+"},
		{2, "fR(![0]|X(tU[1]))", [][]int{{1, 0}, {1, 0}}, "+-"},
		{2, "tU([1]&XWf)", [][]int{{0, 1}, {0, 1}}, "-+"},
		{2, "tU([1]&XXWf)", [][]int{{0, 1}, {2, 3}, {0, 1}, {2, 3}}, "--++"},
		{2, "tU([0]&XXWf)", [][]int{{1, 0}, {2, 3}, {2, 3}, {1, 0}}, "--++"},
	}
	for _, c := range cases {
		want := api.Dfa{Letters: c.letters, Next: c.next, Final: sample.Pluses(c.final)}
		f := read(t, c.letters, c.text)
		if got, err := back.Make(c.letters, f); !sample.EqualDfas(got, want) || err != nil {
			t.Errorf("Make of %q over %d letters = %v, %v, want %v", c.text, c.letters, got, err, want)
		}
		checkBoth(t, c.letters, f)
	}
}

// checkMinimal demands of an automaton what small.Minimal returns for the same words.
func checkMinimal(t *testing.T, f []api.Node, made, same api.Dfa) {
	t.Helper()
	if want, err := small.Minimal(same); !sample.EqualDfas(made, want) || err != nil {
		t.Errorf("Make(2, %v) = %v, and the least automaton is %v, %v", f, made, want, err)
	}
}

// 12.2: the mirror of an automaton whose states are all found is made into the least one, and
// so other formulas of the same words, and products of automata, lead to it as well.
func TestMakeIsMinimal(t *testing.T) {
	several := 0
	for seed := range uint64(2000) {
		below := sample.Below(seed)
		f := sample.MixedTree(below, 2, 1+below(16))
		g := sample.MixedTree(below, 2, 1+below(16))
		first, err := back.Make(2, f.Nodes())
		second, wrong := back.Make(2, g.Nodes())
		if err != nil || wrong != nil {
			continue
		}
		checkLike := func(d api.Dfa, nodes []api.Node) {
			t.Helper()
			if made, err := back.Make(2, nodes); err == nil {
				checkMinimal(t, nodes, made, d)
			}
		}
		if len(first.Next) > 3 && len(second.Next) > 3 {
			several++
		}
		checkLike(first, f.Nodes())
		if plainly, err := mean.Plain(2, f.Nodes()); err == nil {
			checkLike(first, plainly)
		}
		if not, err := dfa.Not(first); err == nil {
			checkLike(not, sample.Tree{Kind: 3, Parts: []sample.Tree{f}}.Nodes())
		}
		if both, err := dfa.Both(first, second); err == nil {
			checkLike(both, sample.Tree{Kind: 4, Parts: []sample.Tree{f, g}}.Nodes())
		}
		if either, err := dfa.Either(first, second); err == nil {
			checkLike(either, sample.Tree{Kind: 5, Parts: []sample.Tree{f, g}}.Nodes())
		}
	}
	if several < 50 {
		t.Errorf("%d pairs of automata have several states", several)
	}
}

// 12.1, 12.2: the errors of a formula, before those of too many states.
func TestErrors(t *testing.T) {
	for _, c := range sample.FormChecks() {
		checkBoth(t, c.Letters, c.Form)
		for i, err := range errorsOf(c.Letters, c.Form) {
			if c.Want != api.OK && plain.Told(err) != c.Want {
				t.Errorf("%s: error %d is %v, want %v", c.Name, i, err, c.Want)
			}
		}
	}
	full := sample.Stacked(40, sample.Node(2, 1, 0), 6)
	cases := []struct {
		name    string
		letters int
		f       []api.Node
		want    api.Errno
	}{
		{"too many states", 6, full, api.ErrFull},
		{"no letters", 0, full, api.ErrRange},
		{"too many letters", 7, full, api.ErrRange},
		{"too many nodes", 6, append(full, sample.Node(10, 0, 0)), api.ErrFull},
		{"a last node of no kind", 6, append(full[:39:39], sample.Node(10, 0, 0)), api.ErrRange},
		{"a last node of the past", 6, append(full[:39:39], sample.Node(11, 0, 0)), api.ErrRange},
		{"a last node with itself as operand", 6, append(full[:39:39], sample.Node(6, 39, 0)), api.ErrShape},
		{"a first node of more letters", 2, append([]api.Node{sample.Node(2, 4, 0)}, full[1:]...), api.ErrRange},
	}
	for _, c := range cases {
		for i, err := range errorsOf(c.letters, c.f) {
			if plain.Told(err) != c.want {
				t.Errorf("%s: error %d is %v, want %v", c.name, i, err, c.want)
			}
		}
		checkBoth(t, c.letters, c.f)
	}
}
