package past_test

import (
	"math"
	"slices"
	"testing"

	"stileward/api"
	"stileward/back"
	"stileward/dfa"
	"stileward/mean"
	"stileward/past"
	"stileward/plain"
	"stileward/sample"
)

// 13.1: the numbers of the kinds that look back.
func TestKinds(t *testing.T) {
	if api.Last != 10 || api.Since != 11 {
		t.Errorf("Last is kind %d, and Since is kind %d", api.Last, api.Since)
	}
	for kind := -3; kind <= 300; kind++ {
		f := []api.Node{sample.Node(0, 0, 0), sample.Node(kind, 0, 0)}
		want := api.OK
		if kind < 0 || kind > 5 && kind < 10 || kind > 11 {
			want = api.ErrRange
		}
		if err := past.Check(1, f); plain.Told(err) != want {
			t.Errorf("Check(1, %v) = %v, want %v", f, err, want)
		}
	}
}

// checkCheck demands of Check what its words say.
func checkCheck(t *testing.T, letters int, f []api.Node) {
	t.Helper()
	if err := past.Check(letters, f); plain.Told(err) != wrongOf(letters, f) {
		t.Errorf("Check(%d, %v) = %v, want %v", letters, f, err, wrongOf(letters, f))
	}
}

// 13.1: what Check finds, and what it finds first; and all functions find the same.
func TestCheck(t *testing.T) {
	for _, c := range checks() {
		for i, err := range errorsOf(c.Letters, c.Form, []int{0}, make([]bool, len(c.Form)), 0) {
			if plain.Told(err) != c.Want {
				t.Errorf("%s: error %d of %v over %d letters is %v, want %v", c.Name, i, c.Form, c.Letters, err, c.Want)
			}
		}
		checkCheck(t, c.Letters, c.Form)
	}
}

// 13.1: there are from 1 to 6 letters, and from 1 to 40 nodes.
func TestCheckSizes(t *testing.T) {
	for letters := -2; letters <= 9; letters++ {
		for nodes := range 300 {
			want := api.OK
			switch {
			case letters < 1 || letters > 6:
				want = api.ErrRange
			case nodes < 1:
				want = api.ErrShape
			case nodes > 40:
				want = api.ErrFull
			}
			if err := past.Check(letters, make([]api.Node, nodes)); plain.Told(err) != want {
				t.Errorf("Check of %d letters and %d nodes = %v, want %v", letters, nodes, err, want)
			}
		}
	}
}

// 13.1: of each kind, at each position, the operands are earlier nodes, and what is none is 0.
func TestCheckOperands(t *testing.T) {
	numbers := []int{math.MinInt, -1 << 32, -2, -1, 0, 1, 2, 3, 4, 5, 7, 8, 38, 39, 40, 64, 256, 1 << 32, 1<<32 + 1, math.MaxInt}
	for _, nodes := range []int{1, 2, 4, 40} {
		for at := range nodes {
			for kind := -2; kind <= 13; kind++ {
				for i := range len(numbers) * len(numbers) {
					f := turned(sample.Stacked(nodes, sample.Node(0, 0, 0), 6))
					f[at] = sample.Node(kind, numbers[i%len(numbers)], numbers[i/len(numbers)])
					checkCheck(t, 3, f)
				}
			}
		}
	}
}

// 13.1: of two nodes, the first one with an error decides, and its ErrRange before its ErrShape.
func TestCheckPairs(t *testing.T) {
	var nodes []api.Node
	for kind := -1; kind <= 12; kind++ {
		for operands := range 25 {
			nodes = append(nodes, sample.Node(kind, operands%5-1, operands/5-1))
		}
	}
	for _, first := range nodes {
		for _, second := range nodes {
			checkCheck(t, 1, []api.Node{first, second})
		}
	}
}

// 13.2: what each kind says of words, and most of all of the empty word and of first letters.
func TestHolds(t *testing.T) {
	// X stands for Last, and U for Since.
	cases := []struct {
		text      string
		good, bad []string
	}{
		{"t", []string{"", "0", "012"}, nil},
		{"f", nil, []string{"", "0", "012"}},
		{"[]", nil, []string{"", "0", "012"}},
		{"[1]", []string{"1", "01", "0001"}, []string{"", "0", "2", "10", "1110"}},
		{"[02]", []string{"0", "2", "10", "12"}, []string{"", "1", "01"}},
		{"[012]", []string{"0", "1", "2", "02"}, []string{""}},
		{"!t", nil, []string{"", "0"}},
		{"!f", []string{"", "0"}, nil},
		{"![1]", []string{"", "0", "10"}, []string{"1", "01"}},
		{"!![1]", []string{"1", "01"}, []string{"", "0", "10"}},
		{"[01]&[12]", []string{"1", "21"}, []string{"", "0", "2", "10"}},
		{"[0]&X[1]", []string{"10", "210"}, []string{"", "0", "1", "00", "11", "01"}},
		{"[0]|X[1]", []string{"0", "10", "11", "20"}, []string{"", "1", "01"}},
		{"f|f", nil, []string{"", "0"}},

		{"Xt", []string{"0", "12"}, []string{""}},
		{"Xf", nil, []string{"", "0", "12"}},
		{"X[1]", []string{"10", "11", "012"}, []string{"", "1", "01"}},
		{"X![1]", []string{"1", "01"}, []string{"", "10"}},
		{"!X[1]", []string{"", "1", "01"}, []string{"10"}},
		{"XXt", []string{"00", "012"}, []string{"", "0"}},
		{"XX[2]", []string{"200", "0211"}, []string{"", "2", "20", "22", "2100"}},
		{"X!Xt", []string{"0", "1"}, []string{"", "00", "012"}},
		{"!Xt", []string{""}, []string{"0", "00"}},

		{"tUt", []string{"0", "00"}, []string{""}},
		{"fUt", []string{"0", "00"}, []string{""}},
		{"tUf", nil, []string{"", "0", "00"}},
		{"fUf", nil, []string{"", "0", "00"}},
		{"[0]U[1]", []string{"1", "10", "1000", "21", "2100"}, []string{"", "0", "00", "2", "120", "02", "1020"}},
		{"tU[1]", []string{"1", "10", "1202", "0122"}, []string{"", "0", "20202"}},
		{"fU[1]", []string{"1", "21"}, []string{"", "10", "0"}},
		{"[01]U[12]", []string{"1", "2", "20", "21000", "2012"}, []string{"", "0", "00"}},
		{"[0]UX[1]", []string{"10", "100", "11", "1200", "1000"}, []string{"", "0", "1", "122", "1220"}},
		{"tU!Xt", nil, []string{"", "0", "012"}},
		{"tU(Xt&![1])", []string{"0", "01", "2"}, []string{"", "1", "11"}},
		{"[0]UX!Xt", []string{"0", "1", "00", "10", "200"}, []string{"", "01", "010"}},
		{"([0]U[1])U[2]", []string{"2", "210", "21", "21001"}, []string{"", "20", "100", "2001"}},
		{"[0]U([1]U[2])", []string{"2", "210", "20", "21", "21100"}, []string{"", "2011", "00"}},
		{"X([0]U[1])", []string{"10", "11", "102", "1002"}, []string{"", "1", "01", "120"}},
		{"!(tU![0])", []string{"", "0", "00"}, []string{"1", "10", "100", "0100"}},
		{"![1]U([1]&XX[1])", []string{"101", "1010", "1112", "212111"}, []string{"", "1", "11", "1021", "10101001"}},
	}
	for _, c := range cases {
		f := read(t, c.text)
		for _, text := range slices.Concat(c.good, c.bad) {
			want := slices.Contains(c.good, text)
			if got, err := past.Holds(3, f, sample.Digits(text)); got != want || err != nil {
				t.Errorf("Holds of %q for %q = %v, %v, want %v", c.text, text, got, err, want)
			}
			checkWord(t, 3, f, sample.Digits(text))
		}
	}
}

// checkWord demands of Holds what its words say; that Start and Feed lead to the values of all
// nodes; and that the formula of Mirror has the same values for the mirror of the word.
func checkWord(t *testing.T, letters int, f []api.Node, w []int) {
	t.Helper()
	is, wrong := holdsSlowly(letters, f, w)
	if got, err := past.Holds(letters, f, w); got != is || plain.Told(err) != wrong {
		t.Errorf("Holds(%d, %v, %v) = %v, %v, want %v, %v", letters, f, w, got, err, is, wrong)
	}
	if wrong != api.OK {
		return
	}
	want := valuesOf(f, w)
	values, err := past.Start(letters, f)
	for _, a := range w {
		if err != nil {
			break
		}
		values, err = past.Feed(letters, f, values, a)
	}
	if !slices.Equal(values, want) || err != nil {
		t.Errorf("Feed of %v leads by %v to %v, %v, want %v", f, w, values, err, want)
	}
	ahead, err := past.Mirror(letters, f)
	if values, wrong := mean.Values(letters, ahead, mirrored(w)); !slices.Equal(values, want) || err != nil || wrong != nil {
		t.Errorf("the mirror %v, %v, of %v has the values %v, %v, for the mirror of %v, want %v", ahead, err, f, values, wrong, w, want)
	}
}

// 13.2, 13.3, 13.4: all small formulas say of all short words what the words say.
func TestWordsAll(t *testing.T) {
	cases := []struct{ letters, nodes, length int }{{1, 1, 6}, {6, 1, 2}, {1, 2, 6}, {3, 2, 4}, {1, 3, 6}, {2, 3, 5}, {1, 4, 4}}
	for _, c := range cases {
		words := sample.Words(c.length, c.letters)
		for _, f := range allForms(c.letters, c.nodes) {
			for _, w := range words {
				checkWord(t, c.letters, f, w)
			}
		}
	}
}

// 13.2, 13.3, 13.4: formulas of all sizes say of words of all lengths what the words say.
func TestWordsMixed(t *testing.T) {
	found := map[bool]int{}
	for seed := range uint64(4000) {
		below := sample.Below(seed)
		letters, nodes := 1+below(6), 1+below(40)
		w := make([]int, below(1+below(81)))
		for i := range w {
			w[i] = below(letters)
		}
		f := turned(sample.MixedForm(seed, letters, nodes))
		checkWord(t, letters, f, w)
		if is, err := past.Holds(letters, f, w); err == nil && len(w) > 2 {
			found[is]++
		}
		checkWord(t, letters, turned(sample.MixedTree(below, letters, nodes).Nodes()), w)
	}
	if found[false] < 700 || found[true] < 700 {
		t.Errorf("formulas hold as often as %v", found)
	}
}

// 13.2, 13.3: words of up to 80 letters are read to their first ones, and formulas of 40 nodes down to theirs.
func TestWordsLong(t *testing.T) {
	for _, length := range []int{1, 2, 39, 40, 63, 64, 65, 79, 80} {
		for at := range length {
			w := sample.Replaced(sample.Repeated(length, 0), at, 1)
			checkWord(t, 3, read(t, "tU[1]"), w)
			checkWord(t, 3, read(t, "![1]U[2]"), append([]int{2}, w[1:]...))
			checkWord(t, 3, read(t, "[0]U[1]"), w)
		}
		checkWord(t, 3, read(t, "tU[1]"), sample.Repeated(length, 0))
	}
	for _, kind := range []int{3, 4, 5, 6, 8} {
		for length := range 81 {
			for _, first := range []api.Node{sample.Node(0, 0, 0), sample.Node(1, 0, 0), sample.Node(2, 2, 0)} {
				f := turned(sample.Stacked(40, first, kind))
				checkWord(t, 2, f, sample.Repeated(length, 1))
				checkWord(t, 2, f, sample.Replaced(sample.Repeated(80, 0), length%80, 1))
			}
		}
	}
}

// 13.2: the whole formula is the last node, whatever is ahead of it.
func TestHoldsLast(t *testing.T) {
	for seed := range uint64(300) {
		f := turned(sample.MixedForm(seed, 3, 40))
		w := sample.Word("\x00\x01\x02\x01\x00\x00\x02"[:seed%8])
		for at, want := range valuesOf(f, w) {
			if got, err := past.Holds(3, f[:at+1], w); got != want || err != nil {
				t.Errorf("Holds(3, %v, %v) = %v, %v, want %v", f[:at+1], w, got, err, want)
			}
		}
	}
}

// 13.2: the errors of Holds, those of the formula before those of the word.
func TestHoldsErrors(t *testing.T) {
	words := [][]int{nil, {0}, {0, 5}, {6}, {-1}, {math.MaxInt}, {math.MinInt}, sample.Repeated(80, 0), sample.Repeated(81, 0), sample.Repeated(81, -1)}
	for _, c := range checks() {
		for _, w := range words {
			checkWord(t, c.Letters, c.Form, w)
		}
		if _, err := past.Holds(c.Letters, c.Form, sample.Repeated(81, 9)); c.Want != api.OK && plain.Told(err) != c.Want {
			t.Errorf("%s: the error is %v, want %v", c.Name, err, c.Want)
		}
	}
	forms := [][]api.Node{{sample.Node(0, 0, 0)}, {sample.Node(2, 1, 0)}, {sample.Node(10, 0, 0)}, {sample.Node(6, 0, 0)}, nil, make([]api.Node, 41)}
	for _, c := range sample.Checks() {
		for _, f := range forms {
			checkWord(t, c.Letters, f, c.Word)
		}
		if is, err := past.Holds(c.Letters, forms[0], c.Word); is != (c.Want == api.OK) || plain.Told(err) != c.Want {
			t.Errorf("%s: Holds = %v, %v, want %v", c.Name, is, err, c.Want)
		}
	}
}

// steps is a formula in which each kind occurs, over three letters.
func steps() []api.Node {
	node := sample.Node
	return []api.Node{
		node(0, 0, 0), node(1, 0, 0), node(2, 2, 0), node(2, 6, 0), node(3, 2, 0), node(4, 3, 4), node(5, 5, 2),
		node(10, 2, 0), node(10, 0, 0), node(10, 7, 0), node(11, 4, 2), node(11, 3, 2), node(11, 4, 5), node(3, 9, 0),
	}
}

// 13.3: for the empty word, no Is, Last or Since holds, and the other kinds as ever.
func TestStart(t *testing.T) {
	node := sample.Node
	cases := []struct {
		f    []api.Node
		want string
	}{
		{steps(), "+---+--------+"},
		{[]api.Node{node(0, 0, 0)}, "+"},
		{[]api.Node{node(1, 0, 0)}, "-"},
		{[]api.Node{node(2, 7, 0), node(3, 0, 0), node(3, 1, 0)}, "-+-"},
		{[]api.Node{node(0, 0, 0), node(10, 0, 0), node(3, 1, 0), node(10, 2, 0)}, "+-+-"},
		{[]api.Node{node(0, 0, 0), node(11, 0, 0), node(3, 1, 0), node(11, 2, 2), node(5, 3, 2), node(4, 3, 2)}, "+-+-+-"},
	}
	for _, c := range cases {
		if got, err := past.Start(3, c.f); !slices.Equal(got, sample.Pluses(c.want)) || err != nil {
			t.Errorf("Start(3, %v) = %v, %v, want %s", c.f, got, err, c.want)
		}
		checkStart(t, 3, c.f)
	}
	for _, c := range checks() {
		checkStart(t, c.Letters, c.Form)
	}
}

// checkStart demands of Start what its words say.
func checkStart(t *testing.T, letters int, f []api.Node) {
	t.Helper()
	want, wrong := startSlowly(letters, f)
	if got, err := past.Start(letters, f); !slices.Equal(got, want) || plain.Told(err) != wrong {
		t.Errorf("Start(%d, %v) = %v, %v, want %v, %v", letters, f, got, err, want, wrong)
	}
}

// 13.3: what each kind takes from the values that are given, even from those that no word has.
func TestFeed(t *testing.T) {
	cases := []struct {
		was  string
		a    int
		want string
	}{
		{"+---+--------+", 0, "+---+---+----+"},
		{"+---+--------+", 1, "+-++--+-+-++-+"},
		{"+---+--------+", 2, "+--++++-+---++"},
		{"--------------", 0, "+---+--------+"},
		{"--------------", 1, "+-++--+---++-+"},
		{"--------------", 2, "+--++++-----++"},
		{"++++++++++++++", 0, "+---+--++++-+-"},
		{"++++++++++++++", 1, "+-++--++++++--"},
		{"++++++++++++++", 2, "+--++++++++++-"},
	}
	for _, c := range cases {
		if got, err := past.Feed(3, steps(), sample.Pluses(c.was), c.a); !slices.Equal(got, sample.Pluses(c.want)) || err != nil {
			t.Errorf("Feed of %s and %d = %v, %v, want %s", c.was, c.a, got, err, c.want)
		}
		checkFeed(t, 3, steps(), sample.Pluses(c.was), c.a)
	}
}

// checkFeed demands of Feed what its words say.
func checkFeed(t *testing.T, letters int, f []api.Node, was []bool, a int) {
	t.Helper()
	want, wrong := feedSlowly(letters, f, was, a)
	if got, err := past.Feed(letters, f, was, a); !slices.Equal(got, want) || plain.Told(err) != wrong {
		t.Errorf("Feed(%d, %v, %v, %d) = %v, %v, want %v, %v", letters, f, was, a, got, err, want, wrong)
	}
}

// 13.3: Feed of all small formulas and all values is what the words say.
func TestFeedAll(t *testing.T) {
	cases := []struct{ letters, nodes int }{{1, 1}, {6, 1}, {1, 2}, {3, 2}, {1, 3}, {2, 3}, {1, 4}}
	for _, c := range cases {
		for _, f := range allForms(c.letters, c.nodes) {
			for set := range 1 << c.nodes {
				var was []bool
				for i := range c.nodes {
					was = append(was, set>>i&1 == 1)
				}
				for a := range c.letters {
					checkFeed(t, c.letters, f, was, a)
				}
			}
		}
	}
}

// 13.3: Feed of formulas of all sizes and any values is what the words say.
func TestFeedMixed(t *testing.T) {
	for seed := range uint64(4000) {
		below := sample.Below(seed)
		letters, nodes := 1+below(6), 1+below(40)
		was := make([]bool, nodes)
		for i := range was {
			was[i] = below(2) == 1
		}
		checkFeed(t, letters, turned(sample.MixedForm(seed, letters, nodes)), was, below(letters))
	}
}

// 13.3: the errors of Feed, and which of them goes first.
func TestFeedErrors(t *testing.T) {
	since := []api.Node{sample.Node(2, 1, 0), sample.Node(11, 0, 0)}
	full := turned(sample.Stacked(40, sample.Node(2, 1, 0), 8))
	ahead := []api.Node{sample.Node(2, 1, 0), sample.Node(8, 0, 0)}
	cases := []struct {
		name      string
		letters   int
		f         []api.Node
		values, a int
		want      api.Errno
	}{
		{"first letter", 2, since, 2, 0, api.OK},
		{"last letter", 2, since, 2, 1, api.OK},
		{"last letter of 6", 6, since, 2, 5, api.OK},
		{"40 values", 1, full, 40, 0, api.OK},

		{"no value", 2, since, 0, 0, api.ErrShape},
		{"a value too few", 2, since, 1, 0, api.ErrShape},
		{"a value too many", 2, since, 3, 0, api.ErrShape},
		{"39 values", 1, full, 39, 0, api.ErrShape},
		{"41 values", 1, full, 41, 0, api.ErrShape},
		{"258 values", 2, since, 258, 0, api.ErrShape},
		{"letter -1", 2, since, 2, -1, api.ErrRange},
		{"letter 2 of 2", 2, since, 2, 2, api.ErrRange},
		{"letter 1 of 1", 1, since, 2, 1, api.ErrRange},
		{"letter 6 of 6", 6, since, 2, 6, api.ErrRange},
		{"letter 256", 2, since, 2, 256, api.ErrRange},
		{"great letter", 2, since, 2, 1 << 32, api.ErrRange},
		{"greatest letter", 2, since, 2, math.MaxInt, api.ErrRange},
		{"least letter", 2, since, 2, math.MinInt, api.ErrRange},

		{"a value too few, and no letter", 2, since, 1, 2, api.ErrShape},
		{"a value too many, and no letter", 2, since, 3, -1, api.ErrShape},
		{"ahead, and a value too few", 2, ahead, 1, 0, api.ErrRange},
		{"ahead, and no letter", 2, ahead, 2, 2, api.ErrRange},
		{"no alphabet, and a value too few", 0, since, 1, 0, api.ErrRange},
		{"no node, no value and no letter", 2, nil, 0, 2, api.ErrShape},
		{"41 nodes and 41 values", 2, make([]api.Node, 41), 41, 0, api.ErrFull},
		{"41 nodes, 40 values and no letter", 2, make([]api.Node, 41), 40, 2, api.ErrFull},
	}
	for _, c := range cases {
		got, err := past.Feed(c.letters, c.f, make([]bool, c.values), c.a)
		if plain.Told(err) != c.want || err != nil && len(got) != 0 {
			t.Errorf("%s: Feed = %v, %v, want %v", c.name, got, err, c.want)
		}
		checkFeed(t, c.letters, c.f, make([]bool, c.values), c.a)
	}
	for _, c := range checks() {
		for values := range 4 {
			for a := -1; a <= 6; a++ {
				checkFeed(t, c.Letters, c.Form, make([]bool, values), a)
			}
		}
	}
}

// checkMirror demands of Mirror what its words say.
func checkMirror(t *testing.T, letters int, f []api.Node) {
	t.Helper()
	want, wrong := mirrorSlowly(letters, f)
	if got, err := past.Mirror(letters, f); !slices.Equal(got, want) || plain.Told(err) != wrong {
		t.Errorf("Mirror(%d, %v) = %v, %v, want %v, %v", letters, f, got, err, want, wrong)
	}
}

// 13.4: Next is in place of Last, and Until in place of Since, and nothing else changes.
func TestMirror(t *testing.T) {
	node := sample.Node
	want := []api.Node{
		node(0, 0, 0), node(1, 0, 0), node(2, 2, 0), node(2, 6, 0), node(3, 2, 0), node(4, 3, 4), node(5, 5, 2),
		node(6, 2, 0), node(6, 0, 0), node(6, 7, 0), node(8, 4, 2), node(8, 3, 2), node(8, 4, 5), node(3, 9, 0),
	}
	for last := range want {
		if got, err := past.Mirror(3, steps()[:last+1]); !slices.Equal(got, want[:last+1]) || err != nil {
			t.Errorf("Mirror(3, %v) = %v, %v, want %v", steps()[:last+1], got, err, want[:last+1])
		}
	}
	for _, c := range []struct{ letters, nodes int }{{1, 1}, {6, 1}, {3, 2}, {2, 3}, {1, 4}} {
		for _, f := range allForms(c.letters, c.nodes) {
			checkMirror(t, c.letters, f)
		}
	}
	for seed := range uint64(4000) {
		checkMirror(t, 4, turned(sample.MixedForm(seed, 4, 1+int(seed)%40)))
	}
	for _, c := range checks() {
		checkMirror(t, c.Letters, c.Form)
	}
}

// 13.2, 13.4: what back makes of the mirror reads words from their ends, and so reads the words
// of a formula that looks back from their beginnings.
func TestBack(t *testing.T) {
	several := 0
	for seed := range uint64(1000) {
		f := turned(sample.MixedTree(sample.Below(seed), 2, 1+int(seed)%15).Nodes())
		ahead, err := past.Mirror(2, f)
		if err != nil {
			t.Fatalf("Mirror(2, %v) = %v", f, err)
		}
		d, err := back.Back(2, ahead)
		if err != nil {
			continue
		}
		if len(d.Next) > 3 {
			several++
		}
		for _, w := range sample.Words(5, 2) {
			is, err := past.Holds(2, f, w)
			if got, wrong := dfa.Accepts(d, w); got != is || err != nil || wrong != nil {
				t.Errorf("Back of the mirror of %v accepts %v: %v, %v, and Holds = %v, %v", f, w, got, wrong, is, err)
			}
		}
	}
	if several < 200 {
		t.Errorf("%d automata have several states", several)
	}
}
