package mean_test

import (
	"math"
	"slices"
	"strings"
	"testing"

	"stileward/api"
	"stileward/form"
	"stileward/mean"
	"stileward/plain"
	"stileward/sample"
)

// read returns the formula of a text over three letters.
func read(t *testing.T, text string) []api.Node {
	t.Helper()
	f, err := form.Read(3, text)
	if err != nil {
		t.Fatalf("Read(3, %q) = %v", text, err)
	}
	return f
}

// 11.1: what each kind says of words, and most of all of the empty word and of last letters.
func TestHolds(t *testing.T) {
	cases := []struct {
		text      string
		good, bad []string
	}{
		{"t", []string{"", "0", "012"}, nil},
		{"f", nil, []string{"", "0", "012"}},
		{"[]", nil, []string{"", "0", "012"}},
		{"[1]", []string{"1", "10", "1000"}, []string{"", "0", "2", "01", "0111"}},
		{"[02]", []string{"0", "2", "01", "21"}, []string{"", "1", "10"}},
		{"[012]", []string{"0", "1", "2", "20"}, []string{""}},
		{"!t", nil, []string{"", "0"}},
		{"!f", []string{"", "0"}, nil},
		{"![1]", []string{"", "0", "01"}, []string{"1", "10"}},
		{"!![1]", []string{"1", "10"}, []string{"", "0", "01"}},
		{"[01]&[12]", []string{"1", "12"}, []string{"", "0", "2", "01"}},
		{"[0]&X[1]", []string{"01", "012"}, []string{"", "0", "1", "00", "11"}},
		{"[0]|X[1]", []string{"0", "01", "11", "02"}, []string{"", "1", "10"}},
		{"f|f", nil, []string{"", "0"}},

		{"Xt", []string{"0", "12"}, []string{""}},
		{"Xf", nil, []string{"", "0", "12"}},
		{"X[1]", []string{"01", "111"}, []string{"", "1", "10"}},
		{"X![1]", []string{"1", "10"}, []string{"", "01"}},
		{"!X[1]", []string{"", "1", "10"}, []string{"01"}},
		{"XXt", []string{"00", "000"}, []string{"", "0"}},
		{"XX[2]", []string{"002", "1120"}, []string{"", "2", "02", "22", "0012"}},
		{"Wt", []string{"", "0", "12"}, nil},
		{"Wf", []string{""}, []string{"0", "12"}},
		{"W[1]", []string{"", "01", "111"}, []string{"1", "10"}},
		{"W![1]", []string{"", "1", "10"}, []string{"01"}},
		{"WWf", []string{"", "0"}, []string{"00", "000"}},
		{"XWf", []string{"0"}, []string{"", "00", "000"}},
		{"WXt", []string{"", "00", "000"}, []string{"0"}},
		{"W[1]&X[1]", []string{"01"}, []string{"", "0", "00"}},

		{"tUt", []string{"0", "00"}, []string{""}},
		{"fUt", []string{"0", "00"}, []string{""}},
		{"tUf", nil, []string{"", "0", "00"}},
		{"[0]U[1]", []string{"1", "01", "0001", "12", "0012"}, []string{"", "0", "00", "2", "021", "20"}},
		{"tU[1]", []string{"1", "01", "2021", "2210"}, []string{"", "0", "20202"}},
		{"fU[1]", []string{"1", "12"}, []string{"", "01", "0"}},
		{"[01]U[12]", []string{"1", "2", "02", "00012"}, []string{"", "0", "00"}},
		{"[0]UX[1]", []string{"01", "001", "11", "0021", "0001"}, []string{"", "0", "1", "221", "0221"}},
		{"tUWf", nil, []string{"", "0", "012"}},
		{"tU!Xt", nil, []string{"", "0", "012"}},
		{"[0]UXWf", []string{"0", "1", "00", "01", "002"}, []string{"", "10", "010"}},
		{"([0]U[1])U[2]", []string{"2", "012", "12", "10012"}, []string{"", "02", "001", "1002"}},
		{"[0]U([1]U[2])", []string{"2", "012", "02", "12", "00112"}, []string{"", "01", "1102", "00"}},

		{"fRf", []string{""}, []string{"0", "00"}},
		{"tRf", []string{""}, []string{"0", "00"}},
		{"fRt", []string{"", "0", "00"}, nil},
		{"fR[0]", []string{"", "0", "00", "000"}, []string{"1", "01", "001", "0010"}},
		{"tR[0]", []string{"", "0", "01", "02"}, []string{"1", "10"}},
		{"[1]R[0]", []string{"", "0", "000"}, []string{"1", "01", "001"}},
		{"[1]R[01]", []string{"", "0", "1", "00", "12", "0012", "01222"}, []string{"2", "02", "002", "0002"}},
		{"[12]R[01]", []string{"", "1", "012", "00"}, []string{"2", "02", "20"}},
		{"[0]RXt", []string{"", "0", "1", "01", "12"}, nil},
		{"[1]RX[01]", []string{"", "10", "112", "0010", "0112"}, []string{"0", "1", "00", "01", "002", "12", "00012"}},
		{"tRX[0]", []string{"", "00", "10", "000"}, []string{"0", "01", "1"}},
		{"fRWf", []string{""}, []string{"0", "1", "00"}},
		{"WfR[0]", []string{"", "0", "00"}, []string{"1", "01", "10"}},

		{"fR([12]|X([01]U[1]))", []string{"", "1", "2", "01", "001", "2012"}, []string{"0", "02", "10", "0120", "021"}},
		{"tU([0]&XWf)|fR[1]", []string{"", "0", "11", "210", "00"}, []string{"01", "2", "12", "1101"}},
	}
	for _, c := range cases {
		f := read(t, c.text)
		for _, text := range slices.Concat(c.good, c.bad) {
			want := slices.Contains(c.good, text)
			if got, err := mean.Holds(3, f, sample.Digits(text)); got != want || err != nil {
				t.Errorf("Holds of %q for %q = %v, %v, want %v", c.text, text, got, err, want)
			}
			checkValues(t, 3, f, sample.Digits(text))
		}
	}
}

// 11.1: the values of all nodes, even of those that are part of nothing or of several, and the last one is the whole formula.
func TestValues(t *testing.T) {
	node := sample.Node
	f := []api.Node{
		node(2, 1, 0), node(2, 2, 0), node(8, 0, 1), node(9, 0, 1), node(6, 2, 0), node(7, 2, 0),
		node(3, 2, 0), node(4, 2, 4), node(5, 6, 4), node(0, 0, 0), node(1, 0, 0), node(9, 1, 9), node(3, 4, 0),
	}
	// A node that does not hold is a -.
	cases := []struct{ text, want string }{
		{"", "---R-W!-|t-R!"},
		{"0", "0-----!-|t-R!"},
		{"1", "-1UR-----t-R!"},
		{"01", "0-U-XW-&|t-R-"},
		{"11", "-1URXW-&|t-R-"},
		{"20", "------!-|t-R!"},
	}
	for _, c := range cases {
		var want []bool
		for i := range len(c.want) {
			want = append(want, c.want[i] != '-')
		}
		if got, err := mean.Values(3, f, sample.Digits(c.text)); !slices.Equal(got, want) || err != nil {
			t.Errorf("Values for %q = %v, %v, want %v", c.text, got, err, want)
		}
		for last := range f {
			if got, err := mean.Holds(3, f[:last+1], sample.Digits(c.text)); got != want[last] || err != nil {
				t.Errorf("Holds of %v for %q = %v, %v, want %v", f[:last+1], c.text, got, err, want[last])
			}
		}
	}
}

// checkValues demands of Values and Holds what their words say, and that End and Ahead lead to the same.
func checkValues(t *testing.T, letters int, f []api.Node, w []int) {
	t.Helper()
	want, wrong := valuesSlowly(letters, f, w)
	got, err := mean.Values(letters, f, w)
	if !slices.Equal(got, want) || plain.Told(err) != wrong {
		t.Errorf("Values(%d, %v, %v) = %v, %v, want %v, %v", letters, f, w, got, err, want, wrong)
	}
	whole := wrong == api.OK && want[len(f)-1]
	if got, err := mean.Holds(letters, f, w); got != whole || plain.Told(err) != wrong {
		t.Errorf("Holds(%d, %v, %v) = %v, %v, want %v, %v", letters, f, w, got, err, whole, wrong)
	}
	if wrong != api.OK {
		return
	}
	values := mean.End(f)
	for _, a := range slices.Backward(w) {
		values = mean.Ahead(f, values, a)
	}
	if !slices.Equal(values, want) {
		t.Errorf("Ahead of %v leads by %v to %v, want %v", f, w, values, want)
	}
}

// 11.1: Values of all small formulas for all short words are what the words say.
func TestValuesAll(t *testing.T) {
	cases := []struct{ letters, nodes, length int }{{1, 1, 6}, {6, 1, 2}, {1, 2, 6}, {3, 2, 4}, {1, 3, 6}, {2, 3, 5}, {1, 4, 3}}
	for _, c := range cases {
		words := sample.Words(c.length, c.letters)
		for _, f := range sample.AllForms(c.letters, c.nodes) {
			for _, w := range words {
				checkValues(t, c.letters, f, w)
			}
		}
	}
}

// 11.1: Values of formulas and words of all sizes are what the words say.
func TestValuesMixed(t *testing.T) {
	found := map[bool]int{}
	for seed := range uint64(6000) {
		below := sample.Below(seed)
		letters, nodes := 1+below(6), 1+below(40)
		w := make([]int, below(1+below(81)))
		for i := range w {
			w[i] = below(letters)
		}
		f := sample.MixedForm(seed, letters, nodes)
		checkValues(t, letters, f, w)
		if is, err := mean.Holds(letters, f, w); err == nil && len(w) > 2 {
			found[is]++
		}
		checkValues(t, letters, sample.MixedTree(below, letters, nodes).Nodes(), w)
	}
	if found[false] < 1000 || found[true] < 1000 {
		t.Errorf("formulas hold as often as %v", found)
	}
}

// 11.1: words of up to 80 letters are read to their ends, and formulas of 40 nodes down to their first ones.
func TestValuesLong(t *testing.T) {
	ever := read(t, "tU[1]")
	for _, length := range []int{1, 2, 39, 40, 63, 64, 65, 79, 80} {
		for at := range length {
			w := sample.Repeated(length, 0)
			checkValues(t, 3, ever, w)
			checkValues(t, 3, ever, sample.Replaced(w, at, 1))
			checkValues(t, 3, read(t, "![1]U[2]"), append(sample.Replaced(w, at, 1)[1:], 2))
		}
	}
	for kind := 3; kind <= 9; kind++ {
		for at := range 80 {
			checkValues(t, 2, sample.Stacked(40, sample.Node(2, 2, 0), kind), sample.Replaced(sample.Repeated(80, 0), at, 1))
		}
		for length := 36; length < 44; length++ {
			checkValues(t, 2, sample.Stacked(40, sample.Node(2, 2, 0), kind), sample.Repeated(length, 1))
			checkValues(t, 2, sample.Stacked(40, sample.Node(0, 0, 0), kind), sample.Repeated(length, 1))
			checkValues(t, 2, sample.Stacked(40, sample.Node(1, 0, 0), kind), sample.Repeated(length, 1))
		}
	}
}

// 11.1: the errors of Holds and Values, those of the formula before those of the word.
func TestValuesErrors(t *testing.T) {
	words := [][]int{nil, {0}, {0, 5}, {6}, {-1}, {math.MaxInt}, {math.MinInt}, sample.Repeated(80, 0), sample.Repeated(81, 0), sample.Repeated(81, -1)}
	for _, c := range sample.FormChecks() {
		for _, w := range words {
			checkValues(t, c.Letters, c.Form, w)
		}
		for _, err := range errorsOf(c.Letters, c.Form, sample.Repeated(81, 9)) {
			if c.Want != api.OK && plain.Told(err) != c.Want {
				t.Errorf("%s: the error is %v, want %v", c.Name, err, c.Want)
			}
		}
	}
	forms := [][]api.Node{{sample.Node(0, 0, 0)}, {sample.Node(2, 1, 0)}, {sample.Node(3, 0, 0)}, {sample.Node(10, 0, 0)}, nil, sample.Stacked(41, sample.Node(1, 0, 0), 3)}
	for _, c := range sample.Checks() {
		for _, f := range forms {
			checkValues(t, c.Letters, f, c.Word)
		}
		for _, err := range errorsOf(c.Letters, forms[0], c.Word)[:2] {
			if plain.Told(err) != c.Want {
				t.Errorf("%s: the error is %v, want %v", c.Name, err, c.Want)
			}
		}
	}
}

// 11.1: there are no values of what is no formula, and none ahead of what is no letter or where none are behind it.
func TestNoValues(t *testing.T) {
	for _, c := range sample.FormChecks() {
		then := make([]bool, len(c.Form))
		isFormula := form.Check(6, c.Form) == nil
		if end, ahead := mean.End(c.Form), mean.Ahead(c.Form, then, 0); (len(end) > 0) != isFormula || (len(ahead) > 0) != isFormula {
			t.Errorf("%s: End(%v) = %v, and Ahead = %v", c.Name, c.Form, end, ahead)
		}
	}
	f := read(t, "[0]U[12]")
	for _, a := range []int{math.MinInt, -1 << 32, -1, 6, 7, 64, 1 << 32, math.MaxInt} {
		if got := mean.Ahead(f, mean.End(f), a); len(got) != 0 {
			t.Errorf("Ahead of %d = %v", a, got)
		}
	}
	for _, values := range []int{0, 1, 2, 4, 40, 1000} {
		if got := mean.Ahead(f, make([]bool, values), 0); len(got) != 0 {
			t.Errorf("Ahead of %d values = %v", values, got)
		}
	}
}

// 11.2: what each kind becomes, and the order of the nodes.
func TestPlain(t *testing.T) {
	cases := []struct{ text, want string }{
		{"t", "t"},
		{"f", "f"},
		{"[]", "[]"},
		{"[02]", "[02]"},
		{"!t", "f"},
		{"!f", "t"},
		{"![]", "![]"},
		{"![02]", "![02]"},
		{"!!t", "t"},
		{"!!f", "f"},
		{"!![1]", "[1]"},
		{"!!![1]", "![1]"},
		{"!!!!!!!t", "f"},
		{"X[1]", "X[1]"},
		{"!X[1]", "W![1]"},
		{"!W[1]", "X![1]"},
		{"X![1]", "X![1]"},
		{"W!![1]", "W[1]"},
		{"!X!W![1]", "WW![1]"},
		{"!W!X!t", "XXf"},
		{"[0]&[1]", "([0]&[1])"},
		{"![0]&[1]", "(![0]&[1])"},
		{"!([0]&[1])", "(![0]|![1])"},
		{"!([0]|[1])", "(![0]&![1])"},
		{"!([0]U[1])", "(![0]R![1])"},
		{"!([0]R[1])", "(![0]U![1])"},
		{"!(![0]U[1])", "([0]R![1])"},
		{"!([0]R![1])", "(![0]U[1])"},
		{"[0]U![1]", "([0]U![1])"},
		{"!!([0]U[1])", "([0]U[1])"},
		{"!(tUf)", "(fRt)"},
		{"!(t&Xf|[1])", "((f|Wt)&![1])"},
		{"!(([0]&[1])U([1]|[2]))", "((![0]|![1])R(![1]&![2]))"},
		{"!([0]R!([1]U!X[2]))", "(![0]U([1]UW![2]))"},
		{"!(tU([0]&X!(tU[1])))", "(fR(![0]|W(tU[1])))"},
		{"!([0]U!([1]R!([2]&!W[0])))", "(![0]R([1]R(![2]|W[0])))"},
	}
	for _, c := range cases {
		got, err := mean.Plain(3, read(t, c.text))
		if !slices.Equal(got, read(t, c.want)) || err != nil {
			t.Errorf("Plain of %q = %v, %v, want %v", c.text, got, err, read(t, c.want))
		}
		if text, wrong := form.Write(3, got); text != c.want || wrong != nil {
			t.Errorf("Plain of %q is written as %q, %v, want %q", c.text, text, wrong, c.want)
		}
		checkPlain(t, 3, read(t, c.text))
	}
}

// 11.2: a node that is used several times is written several times, and one that is part of nothing is not.
func TestPlainParts(t *testing.T) {
	node := sample.Node
	cases := []struct{ f, want []api.Node }{
		{[]api.Node{node(2, 5, 0), node(2, 1, 0), node(1, 0, 0)}, []api.Node{node(1, 0, 0)}},
		{[]api.Node{node(1, 0, 0), node(2, 5, 0), node(6, 1, 0)}, []api.Node{node(2, 5, 0), node(6, 0, 0)}},
		{[]api.Node{node(2, 5, 0), node(4, 0, 0)}, []api.Node{node(2, 5, 0), node(2, 5, 0), node(4, 0, 1)}},
		{[]api.Node{node(2, 5, 0), node(2, 2, 0), node(8, 1, 0)}, []api.Node{node(2, 2, 0), node(2, 5, 0), node(8, 0, 1)}},
		{
			[]api.Node{node(2, 5, 0), node(3, 0, 0), node(9, 0, 1)},
			[]api.Node{node(2, 5, 0), node(2, 5, 0), node(3, 1, 0), node(9, 0, 2)},
		},
		{
			[]api.Node{node(2, 5, 0), node(3, 0, 0), node(9, 0, 1), node(3, 2, 0)},
			[]api.Node{node(2, 5, 0), node(3, 0, 0), node(2, 5, 0), node(8, 1, 2)},
		},
		{
			[]api.Node{node(2, 5, 0), node(7, 0, 0), node(3, 1, 0), node(5, 2, 1)},
			[]api.Node{node(2, 5, 0), node(3, 0, 0), node(6, 1, 0), node(2, 5, 0), node(7, 3, 0), node(5, 2, 4)},
		},
	}
	for _, c := range cases {
		if got, err := mean.Plain(3, c.f); !slices.Equal(got, c.want) || err != nil {
			t.Errorf("Plain(3, %v) = %v, %v, want %v", c.f, got, err, c.want)
		}
		checkPlain(t, 3, c.f)
	}
}

// checkPlain demands of Plain what its words say.
func checkPlain(t *testing.T, letters int, f []api.Node) {
	t.Helper()
	want, wrong := plainSlowly(letters, f)
	got, err := mean.Plain(letters, f)
	if !slices.Equal(got, want) || plain.Told(err) != wrong {
		t.Errorf("Plain(%d, %v) = %v, %v, want %v, %v", letters, f, got, err, want, wrong)
	}
}

// 11.2: there are at most 40 nodes, of which those that are used several times count as often.
func TestPlainFull(t *testing.T) {
	is, isTrue := sample.Node(2, 5, 0), sample.Node(0, 0, 0)
	ands := func(n int, before string) string {
		return before + strings.Repeat("([0]&", n-1) + "[0]" + strings.Repeat(")", n-1)
	}
	above := func(f []api.Node, kinds ...int) []api.Node {
		for _, kind := range kinds {
			f = append(f, sample.Node(kind, len(f)-1, 0))
		}
		return f
	}
	cases := []struct {
		name string
		f    []api.Node
		size int
	}{
		{"40 nodes in a row", sample.Stacked(40, isTrue, 7), 40},
		{"40 nodes in a row, one of them a Not", above(sample.Stacked(39, is, 6), 3), 40},
		{"40 nodes in a row, one of them a Not of True", above(sample.Stacked(39, isTrue, 6), 3), 39},
		{"40 Nots and a True", sample.Stacked(40, isTrue, 3), 1},
		{"39 Nots and an Is", sample.Stacked(40, is, 3), 2},
		{"38 Nots and an Is", sample.Stacked(39, is, 3), 1},
		{"5 nodes that are used twice", sample.Stacked(5, is, 4), 31},
		{"31 nodes and 9 others", above(sample.Stacked(5, is, 8), 6, 6, 7, 6, 6, 6, 7, 6, 7), 40},
		{"31 nodes and 10 others", above(sample.Stacked(5, is, 8), 6, 6, 7, 6, 6, 6, 7, 6, 7, 7), 41},
		{"31 nodes, 9 others and many Nots", above(sample.Stacked(5, is, 8), 3, 3, 6, 6, 7, 6, 3, 3, 3, 3, 6, 6, 7, 6, 7), 40},
		{"31 nodes, 10 others and many Nots", above(sample.Stacked(5, is, 8), 3, 3, 6, 6, 7, 6, 3, 3, 3, 3, 6, 6, 7, 6, 7, 7), 41},
		{"31 nodes and 16 Nots", above(sample.Stacked(5, is, 8), 3), 47},
		{"15 nodes and 8 Nots", above(sample.Stacked(4, is, 9), 3), 23},
		{"6 nodes that are used twice", sample.Stacked(6, isTrue, 4), 63},
		{"40 nodes that are used twice", sample.Stacked(40, isTrue, 9), 1<<40 - 1},
		{"39 nodes that are used twice, negated", above(sample.Stacked(39, isTrue, 9), 3), 1<<39 - 1},
		{"39 nodes that are used twice, and are part of nothing", append(sample.Stacked(39, isTrue, 9), is), 1},
		{"13 negated sets", read(t, ands(13, "!")), 38},
		{"13 negated sets and 2 others", read(t, ands(13, "X!W")), 40},
		{"13 negated sets and 3 others", read(t, ands(13, "X!WX")), 41},
		{"14 negated sets", read(t, ands(14, "!")), 41},
		{"20 sets", read(t, ands(20, "")), 39},
		{"20 sets and another node", read(t, ands(20, "W")), 40},
		{"20 sets, doubly negated, too many to read", above(read(t, ands(20, "")), 3), 59},
	}
	for _, c := range cases {
		if got := plainSize(c.f); got != c.size {
			t.Errorf("%s: there would be %d nodes, not %d", c.name, got, c.size)
		}
		want := api.OK
		if c.size > 40 {
			want = api.ErrFull
		}
		if got, err := mean.Plain(3, c.f); plain.Told(err) != want || err == nil && len(got) != c.size || err != nil && len(got) != 0 {
			t.Errorf("%s: Plain(3, %v) = %v, %v, want %d nodes", c.name, c.f, got, err, c.size)
		}
		checkPlain(t, 3, c.f)
	}
}

// 11.2: the errors of Plain are those of form.Check first.
func TestPlainErrors(t *testing.T) {
	for _, c := range sample.FormChecks() {
		checkPlain(t, c.Letters, c.Form)
		if _, err := mean.Plain(c.Letters, c.Form); c.Want != api.OK && plain.Told(err) != c.Want {
			t.Errorf("%s: Plain(%d, %v) = %v, want %v", c.Name, c.Letters, c.Form, err, c.Want)
		}
	}
	for _, n := range []api.Node{{Kind: 10}, {Kind: 2, A: 4}, {Kind: 2, A: -1}, {Kind: 3, A: 39}, {Kind: 4, A: 0, B: 39}, {Kind: 1, A: 1}} {
		f := sample.Stacked(40, sample.Node(2, 3, 0), 4)
		f[39] = n
		checkPlain(t, 2, f)
		checkPlain(t, 0, f)
		f[38], f[39] = n, sample.Node(4, 37, 37)
		checkPlain(t, 2, f)
	}
}

// isPlain tells whether each Not is above an Is.
func isPlain(f []api.Node) bool {
	return !slices.ContainsFunc(f, func(n api.Node) bool { return n.Kind == 3 && f[n.A].Kind != 2 })
}

// checkMeaning demands that Plain returns a formula with Not above Is alone, which is its own
// Plain and holds of the same words.
func checkMeaning(t *testing.T, letters int, f []api.Node, words [][]int) {
	t.Helper()
	got, err := mean.Plain(letters, f)
	if err != nil {
		return
	}
	again, wrong := mean.Plain(letters, got)
	if form.Check(letters, got) != nil || !isPlain(got) || !slices.Equal(again, got) || wrong != nil {
		t.Errorf("Plain(%d, %v) = %v, and Plain of that is %v, %v", letters, f, got, again, wrong)
	}
	for _, w := range words {
		is, err := mean.Holds(letters, f, w)
		if still, wrong := mean.Holds(letters, got, w); still != is || err != nil || wrong != nil {
			t.Errorf("Holds of %v for %v = %v, %v, and of its Plain %v it is %v, %v", f, w, is, err, got, still, wrong)
		}
	}
}

// 11.2: Plain of all small formulas is what the words say, and holds of the same words.
func TestPlainAll(t *testing.T) {
	cases := []struct{ letters, nodes, length int }{{1, 1, 4}, {6, 1, 2}, {1, 2, 4}, {3, 2, 3}, {1, 3, 4}, {2, 3, 3}, {1, 4, 2}}
	for _, c := range cases {
		words := sample.Words(c.length, c.letters)
		for _, f := range sample.AllForms(c.letters, c.nodes) {
			checkPlain(t, c.letters, f)
			checkMeaning(t, c.letters, f, words)
		}
	}
}

// 11.2: Plain of formulas of all sizes is what the words say, and holds of the same words.
func TestPlainMixed(t *testing.T) {
	var sizes [100]int
	words := [][]int{nil, {0}, {1}, {0, 0}, {0, 1}, {1, 1, 0}, {0, 0, 0, 1, 0}, {1, 0, 1, 1, 0, 1, 1}, sample.Repeated(80, 1)}
	for seed := range uint64(20000) {
		below := sample.Below(seed)
		letters := 2 + below(5)
		forms := [][]api.Node{
			sample.MixedForm(seed, letters, 1+below(12)),
			sample.MixedForm(seed, letters, 1+below(40)),
			sample.MixedTree(below, letters, 1+below(40)).Nodes(),
		}
		for _, f := range forms {
			checkPlain(t, letters, f)
			checkMeaning(t, letters, f, words)
			sizes[min(plainSize(f), len(sizes)-1)]++
		}
	}
	for size := 1; size < 60; size++ {
		if sizes[size] == 0 {
			t.Errorf("no formula becomes one of %d nodes", size)
		}
	}
}

// 11.2, 10.3: the nodes are in the order in which form.Read returns them.
func TestPlainOrder(t *testing.T) {
	read := 0
	for seed := range uint64(5000) {
		f := sample.MixedTree(sample.Below(seed), 4, 1+int(seed)%40).Nodes()
		got, err := mean.Plain(4, f)
		if err != nil {
			continue
		}
		text, err := form.Write(4, got)
		again, wrong := form.Read(4, text)
		if !slices.Equal(again, got) || err != nil || wrong != nil {
			t.Errorf("Plain(4, %v) = %v, is written as %q, %v, and that is read as %v, %v", f, got, text, err, again, wrong)
		}
		read++
	}
	if read < 2000 {
		t.Errorf("%d formulas are read", read)
	}
}
