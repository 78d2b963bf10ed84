package dfa_test

import (
	"math"
	"slices"
	"strconv"
	"testing"

	"stileward/api"
	"stileward/dfa"
	"stileward/plain"
	"stileward/sample"
)

// product is one of the three functions that make products.
type product struct {
	name  string
	make  func(a, b api.Dfa) (api.Dfa, error)
	final func(inA, inB bool) bool
}

// products are the three functions.
var products = []product{
	{"Both", dfa.Both, isFinal[0]},
	{"Either", dfa.Either, isFinal[1]},
	{"But", dfa.But, isFinal[2]},
}

// noStates are numbers that are states of no automaton.
var noStates = []int{math.MinInt, -1 << 32, -256, -40, -1, 40, 41, 256, 1 << 32, math.MaxInt}

// even accepts the words of 0 and 1 with an even number of 1; its start is its last state.
func even() api.Dfa {
	return api.Dfa{Letters: 2, Start: 1, Next: [][]int{{0, 1}, {1, 0}}, Final: []bool{false, true}}
}

// ends accepts the words of 0 and 1 that end with 0, 1. No word leads to its state 1.
func ends() api.Dfa {
	return api.Dfa{
		Letters: 2,
		Start:   3,
		Next:    [][]int{{0, 2}, {1, 1}, {0, 3}, {0, 3}},
		Final:   []bool{false, true, true, false},
	}
}

// 6.1: what Check finds, and what it finds first.
func TestCheck(t *testing.T) {
	for _, c := range sample.DfaChecks() {
		if err := dfa.Check(c.Dfa); plain.Told(err) != c.Want {
			t.Errorf("%s: Check(%v) = %v, want %v", c.Name, c.Dfa, err, c.Want)
		}
	}
}

// 6.1: there are from 1 to 40 states and from 1 to 6 letters.
func TestCheckSizes(t *testing.T) {
	for states := range 90 {
		for letters := range 9 {
			var d api.Dfa
			if states > 0 {
				d = sample.Mixed(7, states, letters)
			}
			d.Letters = letters
			want := wrongOf(d)
			if is := letters >= 1 && letters <= 6 && states >= 1 && states <= 40; is != (want == api.OK) {
				t.Fatalf("%d states and %d letters have %v", states, letters, want)
			}
			if err := dfa.Check(d); plain.Told(err) != want {
				t.Errorf("Check of %d states and %d letters = %v, want %v", states, letters, err, want)
			}
		}
	}
}

// 6.1: a number that is no state is found wherever it is.
func TestCheckPlaces(t *testing.T) {
	for _, states := range []int{1, 2, 39, 40} {
		for _, letters := range []int{1, 2, 6} {
			d := sample.Mixed(uint64(states), states, letters)
			for _, number := range append(noStates, states) {
				for _, row := range d.Next {
					for a, before := range row {
						row[a] = number
						if err := dfa.Check(d); plain.Told(err) != api.ErrRange {
							t.Fatalf("Check(%v) = %v, want ErrRange", d, err)
						}
						row[a] = before
					}
				}
				d.Start = number
				if err := dfa.Check(d); plain.Told(err) != api.ErrRange {
					t.Fatalf("Check(%v) = %v, want ErrRange", d, err)
				}
				d.Start = 0
			}
			if err := dfa.Check(d); err != nil {
				t.Fatalf("Check(%v) = %v", d, err)
			}
		}
	}
}

// 6.1: a row that is too short or too long is found wherever it is, and so is any other number of finals.
func TestCheckShapes(t *testing.T) {
	for _, states := range []int{1, 2, 40} {
		for letters := 1; letters <= 6; letters++ {
			for s := range states {
				for length := range 10 {
					d := sample.Mixed(uint64(s), states, letters)
					d.Next[s] = make([]int, length)
					want := api.ErrShape
					if length == letters {
						want = api.OK
					}
					if err := dfa.Check(d); plain.Told(err) != want {
						t.Errorf("Check(%v) = %v, want %v", d, err, want)
					}
				}
			}
		}
		for length := range 100 {
			d := sample.Mixed(1, states, 2)
			d.Final = make([]bool, length)
			want := api.ErrShape
			if length == states {
				want = api.OK
			}
			if err := dfa.Check(d); plain.Told(err) != want {
				t.Errorf("Check(%v) = %v, want %v", d, err, want)
			}
		}
	}
}

// 6.2: Run reads the letters one by one, from whatever state.
func TestRun(t *testing.T) {
	cases := []struct {
		d    api.Dfa
		from int
		w    []int
		want int
	}{
		{sample.Ring(0, 1), 0, nil, 0},
		{sample.Ring(0, 1), 0, sample.Repeated(80, 0), 0},
		{sample.Ring(0, 3), 0, nil, 0},
		{sample.Ring(0, 3), 2, nil, 2},
		{sample.Ring(0, 3), 2, []int{}, 2},
		{sample.Ring(0, 3), 2, []int{0}, 0},
		{sample.Ring(0, 3), 1, []int{0, 0, 0}, 1},
		{sample.Ring(2, 3), 0, sample.Repeated(4, 0), 4},
		{sample.Ring(2, 3), 0, sample.Repeated(5, 0), 2},
		{sample.Ring(0, 40), 0, sample.Repeated(79, 0), 39},
		{sample.Ring(0, 40), 39, sample.Repeated(80, 0), 39},
		{even(), 1, []int{0, 1, 0}, 0},
		{even(), 0, []int{0, 1, 0}, 1},
		{ends(), 3, []int{1, 0, 0, 1}, 2},
		{ends(), 0, []int{1}, 2},
		{ends(), 1, []int{1, 0, 0, 1}, 1},
		{ends(), 2, []int{1, 1}, 3},
	}
	for _, c := range cases {
		if got, err := dfa.Run(c.d, c.from, c.w); got != c.want || err != nil {
			t.Errorf("Run(%v, %d, %v) = %d, %v, want %d", c.d, c.from, c.w, got, err, c.want)
		}
	}
}

// 6.2: Accepts begins at Start, and asks whether the last state is final.
func TestAccepts(t *testing.T) {
	elsewhere := even()
	elsewhere.Start = 0
	cases := []struct {
		d    api.Dfa
		w    []int
		want bool
	}{
		{sample.Ring(0, 1), nil, true},
		{sample.Ring(0, 1), sample.Repeated(80, 0), true},
		{notSlowly(sample.Ring(0, 1)), nil, false},
		{notSlowly(sample.Ring(0, 1)), []int{0}, false},
		{sample.Ring(0, 3), []int{}, false},
		{sample.Ring(0, 3), []int{0, 0}, true},
		{sample.Ring(0, 3), []int{0, 0, 0}, false},
		{sample.Ring(0, 40), sample.Repeated(79, 0), true},
		{sample.Ring(0, 40), sample.Repeated(80, 0), false},
		{even(), nil, true},
		{even(), []int{1}, false},
		{even(), []int{1, 0, 1}, true},
		{elsewhere, nil, false},
		{elsewhere, []int{1}, true},
		{elsewhere, []int{1, 0, 1}, false},
		{ends(), nil, false},
		{ends(), []int{1, 0, 0, 1}, true},
		{ends(), []int{0, 1, 0}, false},
		{ends(), []int{0, 1, 1}, false},
	}
	for _, c := range cases {
		if got, err := dfa.Accepts(c.d, c.w); got != c.want || err != nil {
			t.Errorf("Accepts(%v, %v) = %v, %v, want %v", c.d, c.w, got, err, c.want)
		}
	}
}

// 6.2: Run and Accepts of small automata and all short words do what the words say.
func TestRunAll(t *testing.T) {
	for _, size := range []struct{ states, letters, longest int }{{1, 1, 4}, {1, 6, 2}, {2, 1, 4}, {2, 2, 4}, {3, 1, 5}, {2, 3, 3}} {
		words := sample.Words(size.longest, size.letters)
		for _, d := range sample.AllDfas(size.states, size.letters) {
			for _, w := range words {
				checkRuns(t, d, w)
			}
		}
	}
}

// checkRuns demands of Run from all states, and of Accepts, what the words say.
func checkRuns(t *testing.T, d api.Dfa, w []int) {
	t.Helper()
	for from := range d.Next {
		if got, err := dfa.Run(d, from, w); got != runSlowly(d, from, w) || err != nil {
			t.Fatalf("Run(%v, %d, %v) = %d, %v", d, from, w, got, err)
		}
	}
	if got, err := dfa.Accepts(d, w); got != d.Final[runSlowly(d, d.Start, w)] || err != nil {
		t.Fatalf("Accepts(%v, %v) = %v, %v", d, w, got, err)
	}
}

// 6.2: Run and Accepts of great automata and long words do what the words say.
func TestRunLong(t *testing.T) {
	for seed := range uint64(300) {
		states, letters := 1+int(seed)%40, 1+int(seed)%6
		d := sample.Mixed(seed, states, letters)
		w := make([]int, 80-int(seed)%3)
		for i := range w {
			w[i] = (i*i + i/5 + int(seed)) % 13 % letters
		}
		checkRuns(t, d, w)
	}
}

// 6.2: the errors of Run and Accepts: those of the automaton, then those of the word, and then that of the state.
func TestRunErrors(t *testing.T) {
	for _, a := range sample.DfaChecks() {
		for _, b := range sample.Checks() {
			for _, from := range append(noStates, 0, len(a.Dfa.Next)-1, len(a.Dfa.Next)) {
				want := runWrongOf(a.Dfa, from, b.Word)
				got, err := dfa.Run(a.Dfa, from, b.Word)
				if plain.Told(err) != want || err != nil && got != 0 {
					t.Errorf("%s, %s: Run from %d = %d, %v, want %v", a.Name, b.Name, from, got, err, want)
				}
			}
			want := acceptsWrongOf(a.Dfa, b.Word)
			is, err := dfa.Accepts(a.Dfa, b.Word)
			if plain.Told(err) != want || err != nil && is {
				t.Errorf("%s, %s: Accepts = %v, %v, want %v", a.Name, b.Name, is, err, want)
			}
		}
	}
}

// 6.2: of several errors, the first one is returned.
func TestRunFirstError(t *testing.T) {
	short := sample.Ring(0, 3)
	short.Final = nil
	long, bad := sample.Repeated(81, 0), []int{1}
	cases := []struct {
		d    api.Dfa
		from int
		w    []int
		want api.Errno
	}{
		{short, 3, long, api.ErrShape},
		{short, 0, bad, api.ErrShape},
		{sample.Ring(0, 41), 0, bad, api.ErrFull},
		{sample.Ring(0, 41), 41, nil, api.ErrFull},
		{sample.Ring(0, 3), 3, long, api.ErrFull},
		{sample.Ring(0, 3), 0, long, api.ErrFull},
		{sample.Ring(0, 3), 0, bad, api.ErrRange},
		{sample.Ring(0, 3), 3, nil, api.ErrRange},
		{sample.Ring(0, 3), -1, nil, api.ErrRange},
		{sample.Ring(0, 3), 2, nil, api.OK},
	}
	for _, c := range cases {
		if _, err := dfa.Run(c.d, c.from, c.w); plain.Told(err) != c.want {
			t.Errorf("Run(%v, %d, %v) = %v, want %v", c.d, c.from, c.w, err, c.want)
		}
	}
}

// 6.1: Copy leaves all as it is, and its errors are those of Check.
func TestCopy(t *testing.T) {
	all := []api.Dfa{even(), ends(), sample.Mixed(3, 40, 6)}
	for _, c := range sample.DfaChecks() {
		all = append(all, c.Dfa)
	}
	for _, d := range all {
		want, wrong := d, wrongOf(d)
		if wrong != api.OK {
			want = api.Dfa{}
		}
		if got, err := dfa.Copy(d); !sample.EqualDfas(got, want) || plain.Told(err) != wrong {
			t.Errorf("Copy(%v) = %v, %v, want %v, %v", d, got, err, want, wrong)
		}
	}
}

// 6.3: Not exchanges final states and others, and leaves all else.
func TestNot(t *testing.T) {
	cases := []struct{ d, want api.Dfa }{
		{
			api.Dfa{Letters: 1, Next: [][]int{{0}}, Final: []bool{true}},
			api.Dfa{Letters: 1, Next: [][]int{{0}}, Final: []bool{false}},
		},
		{
			even(),
			api.Dfa{Letters: 2, Start: 1, Next: [][]int{{0, 1}, {1, 0}}, Final: []bool{true, false}},
		},
		{
			ends(),
			api.Dfa{Letters: 2, Start: 3, Next: [][]int{{0, 2}, {1, 1}, {0, 3}, {0, 3}}, Final: []bool{true, false, false, true}},
		},
	}
	for _, c := range cases {
		if got, err := dfa.Not(c.d); !sample.EqualDfas(got, c.want) || err != nil {
			t.Errorf("Not(%v) = %v, %v, want %v", c.d, got, err, c.want)
		}
		if got, err := dfa.Not(c.want); !sample.EqualDfas(got, c.d) || err != nil {
			t.Errorf("Not(%v) = %v, %v, want %v", c.want, got, err, c.d)
		}
	}
}

// 6.3: Not of all small automata and of great ones does what the words say, and its errors are those of Check.
func TestNotAll(t *testing.T) {
	all := slices.Concat(sample.AllDfas(1, 3), sample.AllDfas(2, 2), sample.AllDfas(3, 1))
	for seed := range uint64(100) {
		all = append(all, sample.Mixed(seed, 40-int(seed)%5, 1+int(seed)%6))
	}
	for _, c := range sample.DfaChecks() {
		all = append(all, c.Dfa)
	}
	for _, d := range all {
		var want api.Dfa
		wrong := wrongOf(d)
		if wrong == api.OK {
			want = notSlowly(d)
		}
		if got, err := dfa.Not(d); !sample.EqualDfas(got, want) || plain.Told(err) != wrong {
			t.Errorf("Not(%v) = %v, %v, want %v, %v", d, got, err, want, wrong)
		}
	}
}

// 6.3: the pairs are numbered as they are found, and final as each function says.
func TestProducts(t *testing.T) {
	cases := []struct {
		a, b                  api.Dfa
		next                  [][]int
		both, either, without []bool
	}{
		{
			sample.Ring(0, 1), sample.Ring(0, 1),
			[][]int{{0}},
			[]bool{true}, []bool{true}, []bool{false},
		},
		{
			// 00, 11, 02, 10, 01, 12
			sample.Ring(0, 2), sample.Ring(0, 3),
			[][]int{{1}, {2}, {3}, {4}, {5}, {0}},
			[]bool{false, false, false, false, false, true},
			[]bool{false, true, true, true, false, true},
			[]bool{false, true, false, true, false, false},
		},
		{
			// 00, 11, 22, 13, 24, 11 again
			sample.Ring(1, 2), sample.Ring(1, 4),
			[][]int{{1}, {2}, {3}, {4}, {1}},
			[]bool{false, false, false, false, true},
			[]bool{false, false, true, false, true},
			[]bool{false, false, true, false, false},
		},
		{
			// 13, 10, 03, 02, 00, 12
			even(), ends(),
			[][]int{{1, 2}, {1, 3}, {4, 0}, {4, 0}, {4, 5}, {1, 2}},
			[]bool{false, false, false, false, false, true},
			[]bool{true, true, false, true, false, true},
			[]bool{true, true, false, false, false, false},
		},
		{
			// 31, 01, 30, 20, 00, 21
			ends(), even(),
			[][]int{{1, 2}, {1, 3}, {4, 0}, {4, 0}, {4, 5}, {1, 2}},
			[]bool{false, false, false, false, false, true},
			[]bool{true, true, false, true, false, true},
			[]bool{false, false, false, true, false, false},
		},
	}
	for i, c := range cases {
		for j, final := range [][]bool{c.both, c.either, c.without} {
			want := api.Dfa{Letters: c.a.Letters, Next: c.next, Final: final}
			if got, err := products[j].make(c.a, c.b); !sample.EqualDfas(got, want) || err != nil {
				t.Errorf("case %d: %s = %v, %v, want %v", i, products[j].name, got, err, want)
			}
		}
	}
}

// 6.3: the products of all small automata do what the words say.
func TestProductsAll(t *testing.T) {
	cases := []struct{ states, others, letters, step, otherStep int }{
		{1, 1, 1, 1, 1},
		{1, 1, 6, 1, 1},
		{1, 2, 2, 1, 1},
		{2, 1, 2, 1, 1},
		{2, 2, 1, 1, 1},
		{2, 2, 2, 1, 3},
		{2, 2, 3, 7, 5},
		{2, 3, 1, 1, 1},
		{3, 3, 1, 5, 11},
		{3, 2, 2, 97, 1},
	}
	for _, c := range cases {
		words := sample.Words(c.states*c.others-1, c.letters)
		all, others := sample.AllDfas(c.states, c.letters), sample.AllDfas(c.others, c.letters)
		for i := 0; i < len(all); i += c.step {
			for j := 0; j < len(others); j += c.otherStep {
				checkSmall(t, all[i], others[j], words)
			}
		}
	}
}

// checkSmall demands of the products what words that lead to all pairs say.
func checkSmall(t *testing.T, a, b api.Dfa, words [][]int) {
	t.Helper()
	for _, p := range products {
		want := productOfWords(a, b, words, p.final)
		if got, err := p.make(a, b); !sample.EqualDfas(got, want) || err != nil {
			t.Fatalf("%s(%v, %v) = %v, %v, want %v", p.name, a, b, got, err, want)
		}
	}
}

// checkProducts demands of the products what the words say.
func checkProducts(t *testing.T, a, b api.Dfa) {
	t.Helper()
	wrong := wrongOfBoth(a, b)
	if wrong == api.OK && pairsOf(a, b) > 40 {
		wrong = api.ErrFull
	}
	for _, p := range products {
		got, err := p.make(a, b)
		is := wrong != api.OK && sample.EqualDfas(got, api.Dfa{}) || wrong == api.OK && isProduct(got, a, b, p.final)
		if !is || plain.Told(err) != wrong {
			t.Errorf("%s(%v, %v) = %v, %v, want %v", p.name, a, b, got, err, wrong)
		}
	}
}

// 6.3: the products of automata of all sizes do what the words say, and those of others as well.
func TestProductsMixed(t *testing.T) {
	full := 0
	for seed := range uint64(3000) {
		states, others, letters := 1+int(seed)%11, 1+int(seed)/11%13, 1+int(seed)/143%6
		a, b := sample.Mixed(seed, states, letters), sample.Mixed(seed+1, others, letters)
		checkProducts(t, a, b)
		if pairsOf(a, b) > 40 {
			full++
		}
	}
	if full < 500 || full > 2500 {
		t.Errorf("%d products have too many pairs", full)
	}
	great := sample.Mixed(5, 40, 6)
	checkProducts(t, great, great)
	checkProducts(t, great, sample.Mixed(6, 1, 6))
	checkProducts(t, sample.Mixed(6, 1, 6), great)
	checkProducts(t, great, sample.Mixed(6, 40, 6))
}

// 6.3: a product accepts the words that the automata accept as its function says.
func TestProductsAccept(t *testing.T) {
	for seed := range uint64(60) {
		a, b := sample.Mixed(seed, 5, 2), sample.Mixed(seed+100, 6, 2)
		for _, p := range products {
			d, err := p.make(a, b)
			if err != nil {
				t.Fatalf("%s(%v, %v) = %v", p.name, a, b, err)
			}
			for _, w := range sample.Words(8, 2) {
				inA, _ := dfa.Accepts(a, w)
				inB, _ := dfa.Accepts(b, w)
				if is, err := dfa.Accepts(d, w); is != p.final(inA, inB) || err != nil {
					t.Fatalf("%s(%v, %v) accepts %v: %v, %v", p.name, a, b, w, is, err)
				}
			}
		}
	}
}

// 6.3: there are at most 40 pairs, and only those that words lead to count.
func TestProductsFull(t *testing.T) {
	cases := []struct {
		name  string
		a, b  api.Dfa
		pairs int
	}{
		{"5 times 7", sample.Ring(0, 5), sample.Ring(0, 7), 35},
		{"3 times 13", sample.Ring(0, 3), sample.Ring(0, 13), 39},
		{"5 times 8", sample.Ring(0, 5), sample.Ring(0, 8), 40},
		{"1 times 40", sample.Ring(0, 1), sample.Ring(0, 40), 40},
		{"5 times 8 behind 1", sample.Ring(1, 5), sample.Ring(0, 8), 41},
		{"3 times 13 behind 1", sample.Ring(0, 3), sample.Ring(1, 13), 40},
		{"3 times 13 behind 2", sample.Ring(0, 3), sample.Ring(2, 13), 41},
		{"6 times 7", sample.Ring(0, 6), sample.Ring(0, 7), 42},
		{"39 times 40", sample.Ring(0, 39), sample.Ring(0, 40), 1560},
		{"40 times 40 in step", sample.Ring(0, 40), sample.Ring(0, 40), 40},
		{"20 and 40 in step", sample.Ring(0, 20), sample.Ring(0, 40), 40},
		{"2 times 20 behind 1", sample.Ring(1, 2), sample.Ring(0, 20), 21},
	}
	for _, c := range cases {
		for _, p := range products {
			for _, pair := range [][2]api.Dfa{{c.a, c.b}, {c.b, c.a}} {
				got, err := p.make(pair[0], pair[1])
				states, want := c.pairs, api.OK
				if c.pairs > 40 {
					states, want = 0, api.ErrFull
				}
				if len(got.Next) != states || plain.Told(err) != want || err != nil && !sample.EqualDfas(got, api.Dfa{}) {
					t.Errorf("%s: %s = %v, %v, want %d states, %v", c.name, p.name, got, err, states, want)
				}
			}
		}
		if got := pairsOf(c.a, c.b); got != c.pairs {
			t.Errorf("%s: there are %d pairs", c.name, got)
		}
	}
}

// line returns the automaton of 40 states and all letters in which one letter
// leads to the next state, and all others to the last one.
func line(letter int) api.Dfa {
	d := api.Dfa{Letters: 6, Final: make([]bool, 40)}
	for s := range d.Final {
		row := sample.Repeated(6, 39)
		row[letter] = min(s+1, 39)
		d.Next = append(d.Next, row)
	}
	return d
}

// 6.3: one pair too many is found at each state and by each letter.
func TestProductsFullAnywhere(t *testing.T) {
	for letter := range 6 {
		a := line((letter + 1) % 6)
		checkProducts(t, a, a)
		for at := range 40 {
			b := sample.CloneDfa(a)
			// This leads to 39 and 38, from where all letters lead to 39 and 39.
			b.Next[at][letter] = 38
			checkProducts(t, a, b)
			checkProducts(t, b, a)
			if pairs := pairsOf(a, b); pairs != 41 {
				t.Errorf("there are %d pairs", pairs)
			}
		}
	}
}

// 6.3: Explore numbers states of whatever kind, here texts, as the products do.
func TestExplore(t *testing.T) {
	next := func(from string, letter int) string {
		number, _ := strconv.Atoi(from)
		return strconv.Itoa((7 - number + 3*letter) % 5)
	}
	isEven := func(at string) bool { return at == "0" || at == "2" || at == "4" }
	got, err := dfa.Explore(2, "4", next, isEven)
	// 4, 3, 1, 2, 0
	want := api.Dfa{
		Letters: 2,
		Next:    [][]int{{1, 2}, {0, 3}, {2, 0}, {4, 1}, {3, 4}},
		Final:   []bool{true, false, false, true, true},
	}
	if !sample.EqualDfas(got, want) || err != nil {
		t.Errorf("Explore = %v, %v, want %v", got, err, want)
	}
}

// 6.3: Explore has at most 40 states, and from 1 to 6 letters.
func TestExploreErrors(t *testing.T) {
	for _, states := range []int{1, 2, 39, 40, 41, 42, 1 << 40} {
		for _, letters := range []int{math.MinInt, -1, 0, 1, 2, 6, 7, 1 << 32, math.MaxInt} {
			next := func(from, letter int) int {
				if letter < letters-1 {
					return from
				}
				return (from + 1) % states
			}
			want, found := api.OK, states
			if letters < 1 || letters > 6 {
				want, found = api.ErrRange, 0
			} else if states > 40 {
				want, found = api.ErrFull, 0
			}
			got, err := dfa.Explore(letters, 0, next, func(at int) bool { return true })
			if plain.Told(err) != want || len(got.Next) != found || err != nil && !sample.EqualDfas(got, api.Dfa{}) {
				t.Errorf("Explore of %d states and %d letters = %v, %v, want %v", states, letters, got, err, want)
			}
		}
	}
}

// 6.3: the errors of the products are those of Check for a, then for b, and then that of their Letters.
func TestProductsErrors(t *testing.T) {
	for _, a := range sample.DfaChecks() {
		for _, b := range sample.DfaChecks() {
			want := wrongOfBoth(a.Dfa, b.Dfa)
			if err := dfa.CheckBoth(a.Dfa, b.Dfa); plain.Told(err) != want {
				t.Errorf("%s, %s: CheckBoth = %v, want %v", a.Name, b.Name, err, want)
			}
			if want == api.OK && pairsOf(a.Dfa, b.Dfa) > 40 {
				want = api.ErrFull
			}
			for _, p := range products {
				got, err := p.make(a.Dfa, b.Dfa)
				if plain.Told(err) != want || err != nil && !sample.EqualDfas(got, api.Dfa{}) {
					t.Errorf("%s, %s: %s = %v, %v, want %v", a.Name, b.Name, p.name, got, err, want)
				}
			}
		}
	}
}

// 6.3: of several errors, the first one is returned.
func TestProductsFirstError(t *testing.T) {
	for _, c := range sample.DfaPairs() {
		if err := dfa.CheckBoth(c.A, c.B); plain.Told(err) != c.Want {
			t.Errorf("%s: CheckBoth = %v, want %v", c.Name, err, c.Want)
		}
		for _, p := range products {
			if _, err := p.make(c.A, c.B); plain.Told(err) != c.Want {
				t.Errorf("%s: %s = %v, want %v", c.Name, p.name, err, c.Want)
			}
		}
	}
}
