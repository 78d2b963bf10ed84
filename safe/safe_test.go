package safe_test

import (
	"slices"
	"testing"

	"stileward/api"
	"stileward/back"
	"stileward/dfa"
	"stileward/form"
	"stileward/plain"
	"stileward/safe"
	"stileward/sample"
	"stileward/small"
)

// maker is one of the four functions that return automata.
type maker struct {
	name string
	make func(d api.Dfa) (api.Dfa, error)
}

// makers are the four functions.
var makers = []maker{
	{"Prefixes", safe.Prefixes},
	{"Rest", safe.Rest},
	{"Always", safe.Always},
	{"Ever", safe.Ever},
}

// made returns what one of the four functions makes.
func made(t *testing.T, d api.Dfa, make func(d api.Dfa) (api.Dfa, error)) api.Dfa {
	t.Helper()
	got, err := make(d)
	if err != nil {
		t.Fatalf("there is the error %v for %v", err, d)
	}
	return got
}

// withRows returns an automaton with other rows.
func withRows(d api.Dfa, rows ...[]int) api.Dfa {
	d.Next = rows
	return d
}

// given is an automaton, and what is to be said of it: the final states of Prefixes
// and of Rest, and the rows of Always and of Ever.
type given struct {
	name           string
	d              api.Dfa
	prefixes, rest string
	always, ever   [][]int
	class          int
}

// onlyEnd accepts the word 0, 1 alone: state 4 is dead, and no word leads to the states
// 1 and 5, of which the first one is alive and the other one is final.
func onlyEnd() api.Dfa {
	return api.Dfa{
		Letters: 2,
		Start:   3,
		Next:    [][]int{{4, 2}, {3, 5}, {4, 4}, {0, 4}, {4, 4}, {4, 0}},
		Final:   sample.Pluses("--+--+"),
	}
}

// examples are automata with all that is to be said of them.
func examples() []given { return slices.Concat(ofOneState(), ofMoreStates()) }

// ofOneState are examples in which all letters lead back.
func ofOneState() []given {
	return []given{
		{"every word", sample.Ring(0, 1), "+", "+", [][]int{{0}}, [][]int{{0}}, 3},
		{"no word", sample.NoneFinal(sample.Ring(0, 1)), "-", "+", [][]int{{0}}, [][]int{{0}}, 3},
	}
}

// ofMoreStates are examples of which most have both final states and others.
func ofMoreStates() []given {
	return []given{
		{
			"no word by more states", sample.NoneFinal(sample.Ring(1, 2)),
			"---", "+++", [][]int{{0}, {1}, {2}}, [][]int{{1}, {2}, {1}}, 3,
		},
		{
			"every word by more states", sample.WithFinals(sample.Ring(1, 2), "+++"),
			"+++", "+++", [][]int{{1}, {2}, {1}}, [][]int{{0}, {1}, {2}}, 3,
		},
		{
			"the empty word", sample.WithFinals(sample.Ring(1, 1), "+-"),
			"+-", "++", [][]int{{1}, {1}}, [][]int{{0}, {1}}, 1,
		},
		{
			"all but the empty word", sample.WithFinals(sample.Ring(1, 1), "-+"),
			"++", "-+", [][]int{{0}, {1}}, [][]int{{1}, {1}}, 2,
		},
		{
			"an even number of letters", sample.WithFinals(sample.Ring(0, 2), "+-"),
			"++", "+-", [][]int{{1}, {1}}, [][]int{{0}, {0}}, 0,
		},
		{
			"an odd number of letters", sample.WithFinals(sample.Ring(0, 2), "-+"),
			"++", "-+", [][]int{{0}, {0}}, [][]int{{1}, {1}}, 0,
		},
		{
			"one letter alone", sample.WithFinals(sample.Ring(2, 1), "-+-"),
			"++-", "-++", [][]int{{0}, {2}, {2}}, [][]int{{1}, {1}, {2}}, 0,
		},
		{
			"one word alone", onlyEnd(),
			"++++-+", "--+-++",
			[][]int{{0, 0}, {1, 1}, {4, 4}, {3, 3}, {4, 4}, {4, 0}},
			[][]int{{4, 2}, {3, 5}, {2, 2}, {0, 4}, {4, 4}, {5, 5}}, 0,
		},
		{
			"one word and its beginnings", sample.WithFinals(onlyEnd(), "+-++-+"),
			"++++-+", "+-++++",
			[][]int{{4, 2}, {1, 1}, {4, 4}, {0, 4}, {4, 4}, {4, 0}},
			[][]int{{0, 0}, {3, 5}, {2, 2}, {3, 3}, {4, 4}, {5, 5}}, 1,
		},
		{
			"no word where no word leads", sample.Started(onlyEnd(), 4),
			"++++-+", "--+-++",
			[][]int{{0, 0}, {1, 1}, {4, 4}, {3, 3}, {4, 4}, {4, 0}},
			[][]int{{4, 2}, {3, 5}, {2, 2}, {0, 4}, {4, 4}, {5, 5}}, 3,
		},
		{
			"the empty word by a state that is left", sample.Started(onlyEnd(), 2),
			"++++-+", "--+-++",
			[][]int{{0, 0}, {1, 1}, {4, 4}, {3, 3}, {4, 4}, {4, 0}},
			[][]int{{4, 2}, {3, 5}, {2, 2}, {0, 4}, {4, 4}, {5, 5}}, 1,
		},
		{
			"a letter 1 of two", api.Dfa{Letters: 2, Next: [][]int{{0, 1}, {2, 1}, {1, 2}}, Final: sample.Pluses("-++")},
			"+++", "-++", [][]int{{0, 0}, {2, 1}, {1, 2}}, [][]int{{0, 1}, {1, 1}, {2, 2}}, 2,
		},
		{
			"no letter 2 of three", api.Dfa{Letters: 3, Next: [][]int{{0, 1, 2}, {0, 0, 2}, {2, 2, 2}}, Final: sample.Pluses("++-")},
			"++-", "+++", [][]int{{0, 1, 2}, {0, 0, 2}, {2, 2, 2}}, [][]int{{0, 0, 0}, {1, 1, 1}, {2, 2, 2}}, 1,
		},
	}
}

// 14.1: Letters, states and Start are those of the automaton, and all else is as each function says.
func TestMakers(t *testing.T) {
	for _, c := range examples() {
		wants := []api.Dfa{sample.WithFinals(c.d, c.prefixes), sample.WithFinals(c.d, c.rest), withRows(c.d, c.always...), withRows(c.d, c.ever...)}
		for i, m := range makers {
			if got, err := m.make(c.d); !sample.EqualDfas(got, wants[i]) || err != nil {
				t.Errorf("%s: %s of %v = %v, %v, want %v", c.name, m.name, c.d, got, err, wants[i])
			}
		}
		check(t, c.d)
	}
}

// 14.2: whether all beginnings of accepted words are accepted, and 2 for all that goes on.
func TestClass(t *testing.T) {
	for _, c := range examples() {
		if got, err := safe.Class(c.d); got != c.class || err != nil {
			t.Errorf("%s: Class(%v) = %d, %v, want %d", c.name, c.d, got, err, c.class)
		}
	}
}

// check demands of all functions what the words say.
func check(t *testing.T, d api.Dfa) {
	t.Helper()
	want := slowly(d)
	wants := []api.Dfa{want.prefixes, want.rest, want.always, want.ever}
	for i, m := range makers {
		if got, err := m.make(d); !sample.EqualDfas(got, wants[i]) || plain.Told(err) != want.wrong {
			t.Errorf("%s of %v = %v, %v, want %v, %v", m.name, d, got, err, wants[i], want.wrong)
		}
	}
	if got, err := safe.Class(d); got != want.class || plain.Told(err) != want.wrong {
		t.Errorf("Class(%v) = %d, %v, want %d, %v", d, got, err, want.class, want.wrong)
	}
}

// checkWords demands that automata accept words as the functions' words say. No word that
// is needed to tell an automaton's class, or whether a word goes on, is longer than them.
func checkWords(t *testing.T, d api.Dfa, words [][]int, longest int) {
	t.Helper()
	accepted := language(d, words)
	all := kinOf(words, accepted)
	if got, err := safe.Class(d); got != classOfWords(all, accepted) || err != nil {
		t.Errorf("Class(%v) = %d, %v, want %d", d, got, err, classOfWords(all, accepted))
	}
	var languages [][]bool
	for _, m := range makers {
		languages = append(languages, language(made(t, d, m.make), words))
	}
	for i, w := range words {
		if len(w) > longest {
			break
		}
		k := all[i]
		wants := []bool{k.goesOn, accepted[i] || !k.goesOn, !k.begunOut, k.begunIn}
		for j, want := range wants {
			if languages[j][i] != want {
				t.Errorf("%s of %v accepts %v: %v", makers[j].name, d, w, !want)
			}
		}
	}
}

// 14.1, 14.2: for small automata, all of some sizes and every few of others, the functions do what
// the words of the chapter say, and what they make accepts the right ones of all short words.
func TestAll(t *testing.T) {
	for _, c := range []struct{ states, letters, step int }{
		{1, 1, 1}, {1, 6, 1}, {2, 1, 1}, {2, 2, 1}, {2, 3, 1}, {3, 1, 1}, {3, 2, 7}, {4, 1, 1}, {3, 3, 1009},
	} {
		// From the start to a state, and on from there to another one.
		longest := c.states - 1
		words := sample.Words(2*longest, c.letters)
		all := sample.AllDfas(c.states, c.letters)
		for i := 0; i < len(all); i += c.step {
			check(t, all[i])
			checkWords(t, all[i], words, longest)
		}
	}
}

// closed makes of an automaton one whose class has all that some class has.
func closed(t *testing.T, d api.Dfa, class int) api.Dfa {
	t.Helper()
	switch class {
	case 1:
		return made(t, d, safe.Always)
	case 2:
		return made(t, d, safe.Ever)
	case 3:
		return made(t, made(t, d, safe.Always), safe.Ever)
	}
	return d
}

// 14.1, 14.2: for automata of all sizes, the functions do what the words of the chapter say.
func TestMixed(t *testing.T) {
	found := map[int]int{}
	for seed := range uint64(3000) {
		states, letters := 1+int(seed)%40, 1+int(seed)/40%6
		for _, d := range []api.Dfa{sample.Mixed(seed, states, letters), sample.OneFinal(seed, states, letters)} {
			d = closed(t, d, int(seed)/7%4)
			check(t, d)
			class, _ := safe.Class(d)
			found[class]++
		}
	}
	for class := range 4 {
		if found[class] < 300 {
			t.Errorf("the classes are found as often as %v", found)
		}
	}
}

// 14.1, 14.2: a word may have to lead through all 40 states to a final one, or to one that is not.
func TestLongWay(t *testing.T) {
	for _, states := range []int{1, 2, 3, 39, 40} {
		for at := range states {
			for _, final := range []bool{false, true} {
				d := sample.Ring(states-1, 1)
				d.Final = slices.Repeat([]bool{!final}, states)
				d.Final[at] = final
				check(t, d)
				d.Next[states-1][0] = at
				check(t, d)
				check(t, sample.Started(d, at))
			}
		}
	}
	d := sample.Ring(39, 1)
	if got, err := safe.Prefixes(d); slices.Contains(got.Final, false) || err != nil {
		t.Errorf("Prefixes(%v) = %v, %v", d, got, err)
	}
	if got, err := safe.Class(d); got != 2 || err != nil {
		t.Errorf("Class(%v) = %d, %v, want 2", d, got, err)
	}
	not, _ := dfa.Not(d)
	if got, err := safe.Class(not); got != 1 || err != nil {
		t.Errorf("Class(%v) = %d, %v, want 1", not, got, err)
	}
}

// 14.1, 14.2: each letter counts, be it the only one that leads away.
func TestLetters(t *testing.T) {
	for letters := 1; letters <= 6; letters++ {
		for letter := range letters {
			for _, final := range []bool{false, true} {
				d := api.Dfa{Letters: letters, Final: []bool{final, !final}}
				d.Next = [][]int{sample.Replaced(sample.Repeated(letters, 0), letter, 1), sample.Repeated(letters, 1)}
				class := 2
				if final {
					class = 1
				}
				if got, err := safe.Class(d); got != class || err != nil {
					t.Errorf("Class(%v) = %d, %v, want %d", d, got, err, class)
				}
				check(t, d)
				check(t, sample.Started(d, 1))
				d.Next[1][letter] = 0
				if got, err := safe.Class(d); got != 0 || err != nil {
					t.Errorf("Class(%v) = %d, %v, want 0", d, got, err)
				}
				check(t, d)
			}
		}
	}
}

// 14.2: states that no word leads to do not count.
func TestClassUnreached(t *testing.T) {
	for set := range 1 << 6 {
		// No word leads from the start to states 1 and 2.
		d := withRows(sample.Ring(0, 3), []int{0}, []int{2}, []int{set % 3})
		for s := range d.Final {
			d.Final[s] = set>>(3+s)&1 == 1
		}
		if got, err := safe.Class(d); got != 3 || err != nil {
			t.Errorf("Class(%v) = %d, %v, want 3", d, got, err)
		}
		check(t, d)
	}
}

// 14.1, 14.2: every policy is both a safe one, Prefixes, and a live one, Rest, which can
// go on well behind whatever there was.
func TestBoth(t *testing.T) {
	for seed := range uint64(1000) {
		d := sample.OneFinal(seed, 1+int(seed)%40, 1+int(seed)/40%6)
		prefixes, rest := made(t, d, safe.Prefixes), made(t, d, safe.Rest)
		both, err := dfa.Both(prefixes, rest)
		if same, w, wrong := small.Same(d, both); !same || err != nil || wrong != nil {
			t.Errorf("of %v, Prefixes and Rest have %v, %v, which is another one at %v, %v", d, both, err, w, wrong)
		}
		if class, err := safe.Class(prefixes); class&1 != 1 || err != nil {
			t.Errorf("Prefixes of %v has the class %d, %v", d, class, err)
		}
		if live := made(t, rest, safe.Prefixes); slices.Contains(live.Final, false) {
			t.Errorf("Rest of %v has words that go on to none: %v", d, rest)
		}
	}
}

// 14.1, 14.2: what each function makes has its class, and stays the same when it is made again;
// and an automaton of that class accepts the same as what is made of it.
func TestMadeAgain(t *testing.T) {
	classes := []int{1, 0, 1, 2}
	for seed := range uint64(1000) {
		d := sample.Mixed(seed, 1+int(seed)%9, 1+int(seed)%3)
		class, _ := safe.Class(d)
		for i, m := range makers {
			once := made(t, d, m.make)
			if again := made(t, once, m.make); !sample.EqualDfas(once, again) {
				t.Errorf("%s of %v is %v, and of that %v", m.name, d, once, again)
			}
			if got, err := safe.Class(once); got&classes[i] != classes[i] || err != nil {
				t.Errorf("%s of %v is %v of class %d, %v", m.name, d, once, got, err)
			}
			same, _, err := small.Same(d, once)
			if classes[i] > 0 && same != (class&classes[i] > 0) || err != nil {
				t.Errorf("%v of class %d and its %s are the same: %v, %v", d, class, m.name, same, err)
			}
		}
	}
}

// 14.1, 14.2: what always is not is not ever, and the class of what is not is that with its parts exchanged.
func TestNot(t *testing.T) {
	for seed := range uint64(2000) {
		d := closed(t, sample.Mixed(seed, 1+int(seed)%40, 1+int(seed)/40%6), int(seed)%4)
		not := made(t, d, dfa.Not)
		ever := made(t, not, safe.Ever)
		if always := made(t, d, safe.Always); !sample.EqualDfas(made(t, ever, dfa.Not), always) {
			t.Errorf("Always of %v is %v, and Ever of Not %v", d, always, ever)
		}
		class, err := safe.Class(d)
		exchanged, wrong := safe.Class(not)
		if exchanged != class>>1|class&1<<1 || err != nil || wrong != nil {
			t.Errorf("%v has the class %d, %v, and Not of it %d, %v", d, class, err, exchanged, wrong)
		}
	}
}

// 14.2: the class does not depend on how an automaton accepts its words.
func TestClassOfMinimal(t *testing.T) {
	for seed := range uint64(2000) {
		d := closed(t, sample.Mixed(seed, 1+int(seed)%40, 1+int(seed)/40%6), int(seed)%4)
		class, err := safe.Class(d)
		got, wrong := safe.Class(made(t, d, small.Minimal))
		if got != class || err != nil || wrong != nil {
			t.Errorf("%v has the class %d, %v, and when it is minimal %d, %v", d, class, err, got, wrong)
		}
	}
}

// 14.2: the classes of formulas.
func TestClassOfFormulas(t *testing.T) {
	cases := []struct {
		text  string
		class int
	}{
		{"t", 3},
		{"f", 3},
		{"[0]", 2},
		{"![0]", 1},
		{"Xt", 2},
		{"Wf", 1},
		{"tU[1]", 2},
		{"fR[1]", 1},
		{"[0]U[1]", 2},
		{"[0]R[01]", 1},
		{"fR([0]|tU[1])", 0},
		{"tU(fR[1])", 0},
		{"tU([0]&fR[0])", 0},
		{"fR(![0]|W(!Xt|[1]))", 1},
		{"fR(![0]|W[1])", 0},
		{"fR(![0]|X[1])", 0},
		{"(tU[1])&(fR[01])", 0},
		{"(tU[1])&(tU[2])", 2},
		{"(fR[12])|(fR[01])", 1},
		{"(tU[1])|(fR[0])", 0},
		{"(tU[1])|(fR[02])", 3},
		{"(tU[1])&(fR[02])", 3},
	}
	for _, c := range cases {
		f, err := form.Read(3, c.text)
		d, wrong := back.Make(3, f)
		if err != nil || wrong != nil {
			t.Fatalf("%q: Read = %v, Make = %v", c.text, err, wrong)
		}
		if got, err := safe.Class(d); got != c.class || err != nil {
			t.Errorf("Class of %q, %v = %d, %v, want %d", c.text, d, got, err, c.class)
		}
		check(t, d)
	}
}

// 14.1, 14.2: the errors are those of dfa.Check, and with an error there is nothing else.
func TestErrors(t *testing.T) {
	for _, c := range sample.DfaChecks() {
		if want := slowly(c.Dfa).wrong; want != c.Want {
			t.Fatalf("%s: the slow way finds %v, want %v", c.Name, want, c.Want)
		}
		check(t, c.Dfa)
	}
}
