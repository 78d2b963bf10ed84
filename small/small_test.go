package small_test

import (
	"slices"
	"testing"

	"stileward/api"
	"stileward/dfa"
	"stileward/plain"
	"stileward/reach"
	"stileward/sample"
	"stileward/small"
	"stileward/word"
)

// finals returns an automaton in which other states are final: those of a set.
func finals(d api.Dfa, set uint64) api.Dfa {
	d = sample.NoneFinal(d)
	for s := range d.Final {
		d.Final[s] = set>>s&1 == 1
	}
	return d
}

// rest reads numbers whose digits, to the base of the number of letters, are the
// letters of a word, and is in the state of what remains behind a division. It
// accepts those that another division leaves nothing of.
func rest(letters, states, divisor int) api.Dfa {
	d := api.Dfa{Letters: letters}
	for s := range states {
		var row []int
		for letter := range letters {
			row = append(row, (s*letters+letter)%states)
		}
		d.Next = append(d.Next, row)
		d.Final = append(d.Final, s%divisor == 0)
	}
	return d
}

// begins accepts the words that begin with the letter 0 of two, and has states of
// which some are as good as others. No word leads to its state 5.
func begins() api.Dfa {
	return api.Dfa{
		Letters: 2,
		Start:   3,
		Next:    [][]int{{4, 0}, {2, 1}, {1, 2}, {2, 0}, {0, 0}, {3, 1}},
		Final:   []bool{false, true, true, false, false, true},
	}
}

// ways has two final states, of which one leads to a final state again.
func ways() api.Dfa {
	return api.Dfa{
		Letters: 2,
		Next:    [][]int{{1, 2}, {1, 1}, {3, 3}, {3, 3}},
		Final:   []bool{false, true, true, false},
	}
}

// 8.1: the fewest states that accept the same, numbered as they are found.
func TestMinimal(t *testing.T) {
	alone := api.Dfa{Letters: 2, Next: [][]int{{0, 0}}, Final: []bool{false}}
	every := api.Dfa{Letters: 2, Next: [][]int{{0, 0}}, Final: []bool{true}}
	thirds := api.Dfa{Letters: 2, Next: [][]int{{0, 1}, {2, 0}, {1, 2}}, Final: []bool{true, false, false}}
	first := api.Dfa{Letters: 2, Next: [][]int{{1, 2}, {1, 1}, {2, 2}}, Final: []bool{false, true, false}}
	cases := []struct {
		name    string
		d, want api.Dfa
	}{
		{"one state", sample.Ring(0, 1), sample.Ring(0, 1)},
		{"one state that is not final", sample.NoneFinal(sample.Ring(0, 1)), sample.NoneFinal(sample.Ring(0, 1))},
		{"no word", sample.NoneFinal(begins()), alone},
		{"every word", finals(begins(), 1<<6-1), every},
		{"every word, but a state that none leads to", finals(begins(), 1<<5-1), every},
		{"no word, but a state that none leads to", finals(begins(), 1<<5), alone},
		{"words that begin with 0", begins(), first},
		{"words that begin with 0, minimal", first, first},
		{"every word from a state on", sample.Started(begins(), 2), every},
		{"no word from a state on", sample.Started(begins(), 4), alone},
		{"a ring", sample.Ring(0, 5), sample.Ring(0, 5)},
		{"a ring of two rounds", finals(sample.Ring(0, 6), 0b100100), sample.Ring(0, 3)},
		{"a ring of three rounds", finals(sample.Ring(0, 6), 0b101010), sample.Ring(0, 2)},
		{"a ring of six rounds", finals(sample.Ring(0, 6), 0b111111), sample.Ring(0, 1)},
		{"a ring behind others", sample.Ring(2, 3), sample.Ring(2, 3)},
		{"a ring that begins before it", finals(sample.Ring(2, 3), 0b10010), finals(sample.Ring(0, 3), 0b010)},
		{"a ring that begins late", finals(sample.Ring(3, 2), 0b10100), finals(sample.Ring(1, 2), 0b100)},
		{"thirds of sixths", rest(2, 6, 3), thirds},
		{"thirds of twenty-fourths", rest(2, 24, 3), thirds},
		{"thirds", rest(2, 3, 3), thirds},
		{"two final states that differ", ways(), ways()},
	}
	for _, c := range cases {
		if got, err := small.Minimal(c.d); !sample.EqualDfas(got, c.want) || err != nil {
			t.Errorf("%s: Minimal(%v) = %v, %v, want %v", c.name, c.d, got, err, c.want)
		}
	}
}

// checkMinimal demands of Minimal what its words say.
func checkMinimal(t *testing.T, d api.Dfa) {
	t.Helper()
	var want api.Dfa
	wrong := plain.Told(dfa.Check(d))
	if wrong == api.OK {
		want = minimalSlowly(d)
	}
	if got, err := small.Minimal(d); !sample.EqualDfas(got, want) || plain.Told(err) != wrong {
		t.Errorf("Minimal(%v) = %v, %v, want %v, %v", d, got, err, want, wrong)
	}
}

// smallest returns, for each language of an automaton of at most as many states, all
// automata with the fewest states that accept it, if they are numbered as by reach.Trim.
func smallest(states, letters int, words [][]int) map[string][]api.Dfa {
	least := map[string][]api.Dfa{}
	for n := 1; n <= states; n++ {
		for _, d := range sample.AllDfas(n, letters) {
			language := languageOf(d, words)
			trimmed, _ := reach.Trim(d)
			if known := least[language]; sample.EqualDfas(d, trimmed) && (len(known) == 0 || len(known[0].Next) == n) {
				least[language] = append(known, d)
			}
		}
	}
	return least
}

// 8.1: for all small automata, Minimal returns the one that has the fewest states of all
// that accept the same short words. There is only one.
func TestMinimalAll(t *testing.T) {
	for _, c := range []struct{ states, letters int }{{1, 1}, {1, 6}, {2, 1}, {2, 2}, {2, 3}, {3, 1}, {3, 2}, {4, 1}} {
		// Automata that differ do so at a word with at most two letters less than they have states together.
		words := sample.Words(2*c.states-2, c.letters)
		least := smallest(c.states, c.letters, words)
		for _, d := range sample.AllDfas(c.states, c.letters) {
			want := least[languageOf(d, words)]
			if got, err := small.Minimal(d); len(want) != 1 || !sample.EqualDfas(got, want[0]) || err != nil {
				t.Fatalf("Minimal(%v) = %v, %v, want %v", d, got, err, want)
			}
		}
	}
}

// 8.1: for automata of all sizes, Minimal does what the words of the chapter say.
func TestMinimalMixed(t *testing.T) {
	whole, merged := 0, 0
	for seed := range uint64(2000) {
		states, letters := 1+int(seed)%40, 1+int(seed)/40%6
		core := sample.Mixed(seed, 1+int(seed)/7%states, letters)
		for _, d := range []api.Dfa{sample.Mixed(seed, states, letters), sample.OneFinal(seed, states, letters), inflated(seed, core, states)} {
			checkMinimal(t, d)
			reached, _ := reach.Reached(d)
			if len(minimalSlowly(d).Next) == len(reached) {
				whole++
			} else {
				merged++
			}
		}
	}
	if whole < 1000 || merged < 1000 {
		t.Errorf("%d automata keep all reached states, %d do not", whole, merged)
	}
}

// 8.1: automata that accept the same words have the same minimal one, whatever their states.
func TestMinimalIsUnique(t *testing.T) {
	for seed := range uint64(500) {
		letters := 1 + int(seed)%6
		d := sample.Mixed(seed, 1+int(seed)%13, letters)
		want, err := small.Minimal(d)
		if err != nil {
			t.Fatalf("Minimal(%v) = %v", d, err)
		}
		for states := len(d.Next); states <= 40; states += 9 {
			big := inflated(seed+uint64(states), d, states)
			if got, err := small.Minimal(big); !sample.EqualDfas(got, want) || err != nil {
				t.Errorf("Minimal(%v) = %v, %v, want %v", big, got, err, want)
			}
		}
		// Not keeps the numbers of the states, and so does what is minimal.
		not, _ := dfa.Not(d)
		notWant, _ := dfa.Not(want)
		if got, err := small.Minimal(not); !sample.EqualDfas(got, notWant) || err != nil {
			t.Errorf("Minimal(%v) = %v, %v, want %v", not, got, err, notWant)
		}
	}
}

// 8.1: what is minimal accepts the same words, is numbered as by reach.Trim, and stays as it is.
func TestMinimalAccepts(t *testing.T) {
	words := sample.Words(7, 2)
	for seed := range uint64(300) {
		d := sample.OneFinal(seed, 1+int(seed)%12, 2)
		minimal, err := small.Minimal(d)
		trimmed, _ := reach.Trim(minimal)
		again, wrong := small.Minimal(minimal)
		if !sample.EqualDfas(trimmed, minimal) || !sample.EqualDfas(again, minimal) || err != nil || wrong != nil {
			t.Errorf("Minimal(%v) = %v, %v, trimmed %v, and minimal again %v, %v", d, minimal, err, trimmed, again, wrong)
		}
		if languageOf(d, words) != languageOf(minimal, words) {
			t.Errorf("Minimal(%v) = %v accepts other words", d, minimal)
		}
		if is, w, err := small.Same(d, minimal); !is || len(w) != 0 || err != nil {
			t.Errorf("Same(%v, %v) = %v, %v, %v", d, minimal, is, w, err)
		}
	}
}

// 8.1: all of 40 states may be needed, even if only a word of 38 letters tells two of
// them apart, and one may be enough.
func TestMinimalLong(t *testing.T) {
	for letter := range 6 {
		for _, one := range []api.Dfa{sample.Ring(0, 40), sample.Ring(39, 1), sample.Ring(20, 20)} {
			for _, set := range []uint64{1 << 39, 1<<39 - 1, 1 << 38, 1, 1<<40 - 2} {
				checkMinimal(t, onlyBy(letter, finals(one, set)))
			}
			if got, err := small.Minimal(onlyBy(letter, one)); !sample.EqualDfas(got, onlyBy(letter, one)) || err != nil {
				t.Errorf("Minimal(%v) = %v, %v", onlyBy(letter, one), got, err)
			}
			got, err := small.Minimal(onlyBy(letter, sample.NoneFinal(one)))
			want := api.Dfa{Letters: 6, Next: [][]int{sample.Repeated(6, 0)}, Final: []bool{false}}
			if !sample.EqualDfas(got, want) || err != nil {
				t.Errorf("Minimal(%v) = %v, %v, want %v", onlyBy(letter, sample.NoneFinal(one)), got, err, want)
			}
		}
		a, b := late(letter)
		checkMinimal(t, a)
		checkMinimal(t, b)
	}
}

// 8.1: states are told apart by each letter, be it the only one.
func TestMinimalLetters(t *testing.T) {
	for letter := range 6 {
		// Letter 0 leads to state 1, all others to state 2; one letter leads on from
		// state 1 to the final state, and the next one does from state 2.
		d := api.Dfa{Letters: 6, Final: []bool{false, false, false, true, false}}
		d.Next = [][]int{
			sample.Replaced(sample.Repeated(6, 2), 0, 1),
			sample.Replaced(sample.Repeated(6, 4), letter, 3),
			sample.Replaced(sample.Repeated(6, 4), (letter+1)%6, 3),
			sample.Repeated(6, 4),
			sample.Repeated(6, 4),
		}
		if got, err := small.Minimal(d); len(got.Next) != 5 || !sample.EqualDfas(got, minimalSlowly(d)) || err != nil {
			t.Errorf("Minimal(%v) = %v, %v, want 5 states", d, got, err)
		}
		d.Next[2] = slices.Clone(d.Next[1])
		if got, err := small.Minimal(d); len(got.Next) != 4 || !sample.EqualDfas(got, minimalSlowly(d)) || err != nil {
			t.Errorf("Minimal(%v) = %v, %v, want 4 states", d, got, err)
		}
	}
}

// 8.2: whether automata accept the same words, and if not, the first word that only one accepts.
func TestSame(t *testing.T) {
	other := ways()
	other.Next[2] = []int{3, 2}
	unseen := begins()
	unseen.Next[5], unseen.Final[5] = []int{5, 5}, false
	cases := []struct {
		name string
		a, b api.Dfa
		same bool
		w    []int
	}{
		{"itself", sample.Ring(0, 1), sample.Ring(0, 1), true, nil},
		{"every word and no word", sample.Ring(0, 1), sample.NoneFinal(sample.Ring(0, 1)), false, nil},
		{"the empty word", finals(begins(), 1<<3), sample.NoneFinal(begins()), false, nil},
		{"the empty word and others", finals(begins(), 1<<3), begins(), false, nil},
		{"rounds of a ring", sample.Ring(0, 3), finals(sample.Ring(0, 6), 0b100100), true, nil},
		{"rings", sample.Ring(0, 4), sample.Ring(0, 3), false, []int{0, 0}},
		{"rings in step at first", finals(sample.Ring(0, 4), 1), finals(sample.Ring(0, 2), 1), false, []int{0, 0}},
		{"rings in step for long", sample.Ring(0, 5), finals(sample.Ring(0, 10), 1<<4), false, sample.Repeated(9, 0)},
		{"a ring behind others", sample.Ring(0, 3), finals(sample.Ring(1, 3), 0b0100), true, nil},
		{"thirds of sixths", rest(2, 6, 3), rest(2, 3, 3), true, nil},
		{"thirds and sixths", rest(2, 6, 6), rest(2, 3, 3), false, []int{1, 1}},
		{"sixths and tenths", rest(3, 6, 6), rest(3, 10, 10), false, []int{2, 0}},
		{"a state that no word leads to", begins(), unseen, true, nil},
		{"an end of words", ways(), other, false, []int{1, 1}},
		{"the smaller letter of two", ways(), sample.NoneFinal(ways()), false, []int{0}},
		{"the smaller letter alone", ways(), finals(ways(), 0b0100), false, []int{0}},
		{"the greater letter alone", ways(), finals(ways(), 0b0010), false, []int{1}},
		{"a shorter word precedes a smaller one", rest(3, 2, 2), rest(3, 4, 4), false, []int{2}},
	}
	for _, c := range cases {
		for _, pair := range [][2]api.Dfa{{c.a, c.b}, {c.b, c.a}} {
			same, w, err := small.Same(pair[0], pair[1])
			if same != c.same || !slices.Equal(w, c.w) || err != nil {
				t.Errorf("%s: Same(%v, %v) = %v, %v, %v, want %v, %v", c.name, pair[0], pair[1], same, w, err, c.same, c.w)
			}
		}
	}
}

// checkSame demands of Same what its words say.
func checkSame(t *testing.T, a, b api.Dfa) {
	t.Helper()
	var want bool
	var word []int
	wrong := plain.Told(dfa.CheckBoth(a, b))
	if wrong == api.OK {
		want, word = sameSlowly(a, b)
	}
	if same, w, err := small.Same(a, b); same != want || !slices.Equal(w, word) || plain.Told(err) != wrong {
		t.Errorf("Same(%v, %v) = %v, %v, %v, want %v, %v, %v", a, b, same, w, err, want, word, wrong)
	}
}

// 8.2: for small automata, all pairs of some sizes and every few of others, Same says what
// all short words do.
func TestSameAll(t *testing.T) {
	cases := []struct{ states, others, letters, step, otherStep int }{
		{1, 1, 1, 1, 1},
		{1, 1, 6, 1, 1},
		{1, 2, 2, 1, 1},
		{2, 1, 3, 1, 1},
		{2, 2, 1, 1, 1},
		{2, 2, 2, 1, 1},
		{2, 2, 3, 3, 5},
		{3, 2, 1, 1, 1},
		{3, 3, 1, 3, 1},
		{3, 2, 2, 17, 1},
		{3, 3, 2, 331, 47},
		{4, 2, 1, 5, 1},
	}
	for _, c := range cases {
		words := sample.Words(c.states+c.others-2, c.letters)
		all, others := sample.AllDfas(c.states, c.letters), sample.AllDfas(c.others, c.letters)
		for i := 0; i < len(all); i += c.step {
			language := languageOf(all[i], words)
			for j := 0; j < len(others); j += c.otherStep {
				other := languageOf(others[j], words)
				want := firstDifferent(language, other, words)
				same, w, err := small.Same(all[i], others[j])
				if same != (language == other) || !slices.Equal(w, want) || err != nil {
					t.Fatalf("Same(%v, %v) = %v, %v, %v, want %v", all[i], others[j], same, w, err, want)
				}
			}
		}
	}
}

// firstDifferent returns the first word that two languages do not both have or lack.
func firstDifferent(language, other string, words [][]int) []int {
	for i, w := range words {
		if language[i] != other[i] {
			return w
		}
	}
	return nil
}

// nearly returns an automaton that differs in one place.
func nearly(seed uint64, d api.Dfa) api.Dfa {
	d = sample.CloneDfa(d)
	s := int(seed) % len(d.Next)
	if letter := int(seed) / 3 % (d.Letters + 1); letter < d.Letters {
		d.Next[s][letter] = int(seed) / 5 % len(d.Next)
	} else {
		d.Final[s] = !d.Final[s]
	}
	return d
}

// 8.2: for automata of all sizes, Same does what the words of the chapter say.
func TestSameMixed(t *testing.T) {
	alike, long := 0, 0
	for seed := range uint64(2000) {
		states, letters := 1+int(seed)%40, 1+int(seed)/40%6
		core := sample.OneFinal(seed, 1+int(seed)/7%states, letters)
		a, b := inflated(seed, core, states), inflated(seed+1, core, min(40, states+int(seed)%5))
		for _, other := range []api.Dfa{b, nearly(seed, b), sample.Mixed(seed+2, 41-states, letters)} {
			checkSame(t, a, other)
			checkSame(t, other, a)
			same, w := sameSlowly(a, other)
			if same {
				alike++
			}
			if len(w) > 4 {
				long++
			}
		}
	}
	if alike < 1000 || alike > 5000 || long < 100 {
		t.Errorf("%d pairs are the same, %d differ at long words", alike, long)
	}
}

// 8.2: automata are the same exactly if their minimal ones are.
func TestSameIsMinimal(t *testing.T) {
	both := 0
	for seed := range uint64(2000) {
		a := sample.Mixed(seed, 1+int(seed)%4, 1+int(seed)%3)
		b := sample.Mixed(seed*seed+7, 1+int(seed)/4%4, 1+int(seed)%3)
		minimalA, _ := small.Minimal(a)
		minimalB, _ := small.Minimal(b)
		same, _, err := small.Same(a, b)
		if same != sample.EqualDfas(minimalA, minimalB) || err != nil {
			t.Errorf("Same(%v, %v) = %v, %v, but minimal are %v and %v", a, b, same, err, minimalA, minimalB)
		}
		if same {
			both++
		}
	}
	if both < 100 || both > 1900 {
		t.Errorf("%d pairs are the same", both)
	}
}

// 8.2: exactly one of two automata accepts the word, and both accept the same of all that precede it.
func TestSameIsFirst(t *testing.T) {
	for seed := range uint64(300) {
		letters := 2 + int(seed)%2
		a := sample.OneFinal(seed, 1+int(seed)%6, letters)
		b := nearly(seed/3, a)
		same, first, err := small.Same(a, b)
		inA, _ := dfa.Accepts(a, first)
		inB, _ := dfa.Accepts(b, first)
		if err != nil || same != (inA == inB) {
			t.Errorf("Same(%v, %v) = %v, %v, %v", a, b, same, first, err)
		}
		for _, w := range sample.Words(6, letters) {
			less, _ := word.Less(letters, w, first)
			inA, _ := dfa.Accepts(a, w)
			inB, _ := dfa.Accepts(b, w)
			if (same || less) && inA != inB {
				t.Fatalf("Same(%v, %v) = %v, %v, but they differ at %v", a, b, same, first, w)
			}
		}
	}
}

// 8.2: the word may have any length that is needed, which is at most 78 letters.
func TestSameLong(t *testing.T) {
	for letter := range 6 {
		a, b := late(letter)
		for _, pair := range [][2]api.Dfa{{a, b}, {b, a}} {
			same, w, err := small.Same(pair[0], pair[1])
			if same || !slices.Equal(w, sample.Repeated(78, letter)) || err != nil {
				t.Errorf("Same(%v, %v) = %v, %v, %v, want 78 times %d", pair[0], pair[1], same, w, err, letter)
			}
		}
	}
	for _, c := range []struct {
		a, b    api.Dfa
		letters int
	}{
		{sample.Ring(0, 40), sample.NoneFinal(sample.Ring(0, 40)), 39},
		{sample.Ring(39, 1), sample.NoneFinal(sample.Ring(0, 1)), 39},
		{finals(sample.Ring(39, 1), 1<<39-1), sample.Ring(0, 1), 39},
		{sample.Ring(0, 20), finals(sample.Ring(0, 40), 1<<19), 39},
		{finals(sample.Ring(20, 20), 1<<19|1<<39), sample.Ring(0, 20), -1},
		{finals(sample.Ring(0, 39), 1), finals(sample.Ring(0, 40), 1), 39},
	} {
		same, w, err := small.Same(c.a, c.b)
		if same != (c.letters < 0) || !slices.Equal(w, sample.Repeated(max(0, c.letters), 0)) || err != nil {
			t.Errorf("Same(%v, %v) = %v, %v, %v, want %d letters", c.a, c.b, same, w, err, c.letters)
		}
	}
}

// 8.2: there may be more pairs of states than a product may have, which is no error.
func TestSamePairs(t *testing.T) {
	a, b := finals(sample.Ring(0, 39), 1<<39-1), finals(sample.Ring(0, 40), 1<<40-1)
	if same, w, err := small.Same(a, b); !same || len(w) != 0 || err != nil {
		t.Errorf("Same of rings of 39 and 40 states = %v, %v, %v", same, w, err)
	}
	for seed := range uint64(20) {
		a, b := sample.NoneFinal(sample.Mixed(seed, 40, 6)), sample.NoneFinal(sample.Mixed(seed+100, 40, 6))
		if _, err := dfa.Both(a, b); plain.Told(err) != api.ErrFull {
			t.Fatalf("Both(%v, %v) = %v, want ErrFull", a, b, err)
		}
		checkSame(t, a, b)
		for s := range 40 {
			checkSame(t, a, finals(b, 1<<s))
		}
	}
}

// 8.1, 8.2: the errors of dfa.Check come first, for a before b, and with an error there is nothing else.
func TestErrors(t *testing.T) {
	for _, a := range sample.DfaChecks() {
		checkMinimal(t, a.Dfa)
		if _, err := small.Minimal(a.Dfa); plain.Told(err) != a.Want {
			t.Errorf("%s: Minimal = %v, want %v", a.Name, err, a.Want)
		}
		for _, b := range sample.DfaChecks() {
			checkSame(t, a.Dfa, b.Dfa)
		}
	}
}

// 8.2: of several errors, the first one is returned.
func TestSameFirstError(t *testing.T) {
	for _, c := range sample.DfaPairs() {
		if same, w, err := small.Same(c.A, c.B); plain.Told(err) != c.Want || same || len(w) != 0 {
			t.Errorf("%s: Same = %v, %v, %v, want %v", c.Name, same, w, err, c.Want)
		}
	}
}
