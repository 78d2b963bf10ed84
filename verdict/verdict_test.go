package verdict_test

import (
	"slices"
	"testing"

	"stileward/api"
	"stileward/back"
	"stileward/dfa"
	"stileward/form"
	"stileward/plain"
	"stileward/safe"
	"stileward/sample"
	"stileward/small"
	"stileward/verdict"
	"stileward/word"
)

// none stands for no word in a list of words that are written as digits.
const none = "none"

// said is what is to be said of a word: its verdict, and the first word behind which all is settled.
type said struct {
	word    string
	verdict int
	soonest string
}

// given is an automaton, and what is to be said of it and of some words.
type given struct {
	name  string
	d     api.Dfa
	words []said
	watch bool
}

// crossroads settles all by one letter and by two, and that from state 4 on well, from state 5 on badly.
func crossroads() api.Dfa {
	return api.Dfa{
		Letters: 3,
		Start:   2,
		Next:    [][]int{{3, 5, 4}, {1, 1, 1}, {0, 0, 3}, {3, 2, 5}, {4, 4, 4}, {5, 5, 5}},
		Final:   sample.Pluses("++-++-"),
	}
}

// trap settles all by the letter 1, but behind the letter 0 nothing ever is.
func trap() api.Dfa {
	return api.Dfa{
		Letters: 2,
		Start:   0,
		Next:    [][]int{{1, 3}, {2, 1}, {1, 2}, {3, 3}},
		Final:   sample.Pluses("-+-+"),
	}
}

// rounds goes round for ever, among states that are all final behind the letter 0 and all others behind 1.
func rounds() api.Dfa {
	return api.Dfa{
		Letters: 2,
		Start:   4,
		Next:    [][]int{{1, 1}, {0, 1}, {3, 3}, {2, 3}, {0, 2}},
		Final:   sample.Pluses("++--+"),
	}
}

// examples are automata with all that is to be said of them.
func examples() []given { return slices.Concat(ofOneLetter(), ofMoreLetters()) }

// ofOneLetter are examples with one word of each length.
func ofOneLetter() []given {
	return []given{
		{"every word", sample.Ring(0, 1), []said{{"", 3, ""}, {"0", 3, ""}, {"000", 3, ""}}, true},
		{"no word", sample.NoneFinal(sample.Ring(0, 1)), []said{{"", 0, ""}, {"0", 0, ""}, {"000", 0, ""}}, true},
		{"every word by more states", sample.WithFinals(sample.Ring(1, 2), "+++"), []said{{"", 3, ""}, {"0", 3, ""}, {"00", 3, ""}}, true},
		{"no word by more states", sample.NoneFinal(sample.Ring(1, 2)), []said{{"", 0, ""}, {"0", 0, ""}, {"00", 0, ""}}, true},
		{"the empty word", sample.WithFinals(sample.Ring(1, 1), "+-"), []said{{"", 2, "0"}, {"0", 0, ""}, {"00", 0, ""}}, true},
		{"all but the empty word", sample.WithFinals(sample.Ring(1, 1), "-+"), []said{{"", 1, "0"}, {"0", 3, ""}, {"00", 3, ""}}, true},
		{"one letter alone", sample.WithFinals(sample.Ring(2, 1), "-+-"), []said{{"", 1, "00"}, {"0", 2, "0"}, {"00", 0, ""}}, true},
		{"all but one letter", sample.WithFinals(sample.Ring(2, 1), "+-+"), []said{{"", 2, "00"}, {"0", 1, "0"}, {"00", 3, ""}}, true},
		{"an even number of letters", sample.WithFinals(sample.Ring(0, 2), "+-"), []said{{"", 2, none}, {"0", 1, none}, {"00", 2, none}}, false},
		{"a final state that is left", sample.Ring(2, 2), []said{{"", 1, none}, {"000", 2, none}, {"0000", 1, none}}, false},
		{
			"states that no word leads to", api.Dfa{Letters: 1, Start: 2, Next: [][]int{{1}, {0}, {2}}, Final: sample.Pluses("+-+")},
			[]said{{"", 3, ""}, {"0", 3, ""}}, true,
		},
		{
			"a settled state that no word leads to", api.Dfa{Letters: 1, Next: [][]int{{1}, {0}, {2}}, Final: sample.Pluses("+-+")},
			[]said{{"", 2, none}, {"0", 1, none}}, false,
		},
	}
}

// ofMoreLetters are examples in which words are ordered by their letters as well.
func ofMoreLetters() []given {
	return []given{
		{
			"crossroads", crossroads(),
			[]said{
				{"", 1, "01"}, {"0", 2, "1"}, {"1", 2, "1"}, {"2", 2, "2"}, {"00", 2, "2"}, {"01", 0, ""},
				{"02", 3, ""}, {"22", 0, ""}, {"21", 1, "01"}, {"20", 2, "2"}, {"0200", 3, ""}, {"0102", 0, ""},
			}, true,
		},
		{"where no word leads to", sample.Started(crossroads(), 1), []said{{"", 3, ""}, {"2", 3, ""}}, true},
		{
			"a trap", trap(),
			[]said{{"", 1, "1"}, {"1", 3, ""}, {"10", 3, ""}, {"0", 2, none}, {"01", 2, none}, {"00", 1, none}, {"001", 1, none}}, false,
		},
		{"within the trap", sample.Started(trap(), 2), []said{{"", 1, none}, {"0", 2, none}, {"1", 1, none}}, false},
		{
			"rounds", rounds(),
			[]said{{"", 2, "0"}, {"0", 3, ""}, {"01", 3, ""}, {"010", 3, ""}, {"1", 0, ""}, {"10", 0, ""}, {"1010", 0, ""}}, true,
		},
	}
}

// checkGiven demands of all functions what is to be said.
func checkGiven(t *testing.T, c given) {
	t.Helper()
	if got, err := verdict.Watch(c.d); got != c.watch || err != nil {
		t.Errorf("%s: Watch(%v) = %v, %v, want %v", c.name, c.d, got, err, c.watch)
	}
	for _, s := range c.words {
		w := sample.Digits(s.word)
		if got, err := verdict.Of(c.d, w); got != s.verdict || err != nil {
			t.Errorf("%s: Of(%v, %v) = %d, %v, want %d", c.name, c.d, w, got, err, s.verdict)
		}
		var soonest []int
		wrong := api.ErrNone
		if s.soonest != none {
			soonest, wrong = sample.Digits(s.soonest), api.OK
		}
		if got, err := verdict.Soonest(c.d, w); !slices.Equal(got, soonest) || plain.Told(err) != wrong {
			t.Errorf("%s: Soonest(%v, %v) = %v, %v, want %v, %v", c.name, c.d, w, got, err, soonest, wrong)
		}
		check(t, c.d, w, slowly(c.d, w))
	}
}

// check demands of all functions some answers.
func check(t *testing.T, d api.Dfa, w []int, want answers) {
	t.Helper()
	if got, err := verdict.Of(d, w); got != want.verdict || plain.Told(err) != want.noVerdict {
		t.Errorf("Of(%v, %v) = %d, %v, want %d, %v", d, w, got, err, want.verdict, want.noVerdict)
	}
	if got, err := verdict.Soonest(d, w); !slices.Equal(got, want.soonest) || plain.Told(err) != want.noSoonest {
		t.Errorf("Soonest(%v, %v) = %v, %v, want %v, %v", d, w, got, err, want.soonest, want.noSoonest)
	}
	if got, err := verdict.Watch(d); got != want.watch || plain.Told(err) != want.noWatch {
		t.Errorf("Watch(%v) = %v, %v, want %v, %v", d, got, err, want.watch, want.noWatch)
	}
}

// 15.1, 15.2: the verdicts for words, the first words behind which they are settled, and whether there always is one.
func TestExamples(t *testing.T) {
	for _, c := range examples() {
		checkGiven(t, c)
	}
}

// formulas are examples whose automata are those of formulas over three letters.
func formulas(t *testing.T) []given {
	t.Helper()
	all := []given{
		{name: "t", words: []said{{"", 3, ""}, {"2", 3, ""}}, watch: true},
		{name: "f", words: []said{{"", 0, ""}, {"2", 0, ""}}, watch: true},
		{name: "[0]", words: []said{{"", 1, "0"}, {"0", 3, ""}, {"1", 0, ""}}, watch: true},
		{name: "![0]", words: []said{{"", 2, "0"}, {"0", 0, ""}, {"1", 3, ""}}, watch: true},
		{name: "XXt", words: []said{{"", 1, "00"}, {"2", 1, "0"}, {"22", 3, ""}}, watch: true},
		{name: "WWf", words: []said{{"", 2, "00"}, {"2", 2, "0"}, {"22", 0, ""}}, watch: true},
		{name: "tU[1]", words: []said{{"", 1, "1"}, {"0202", 1, "1"}, {"021", 3, ""}}, watch: true},
		{name: "fR[1]", words: []said{{"", 2, "0"}, {"111", 2, "0"}, {"110", 0, ""}}, watch: true},
		{name: "[0]U[2]", words: []said{{"", 1, "1"}, {"00", 1, "1"}, {"001", 0, ""}, {"002", 3, ""}}, watch: true},
		{name: "[2]R[12]", words: []said{{"", 2, "0"}, {"11", 2, "0"}, {"110", 0, ""}, {"112", 3, ""}}, watch: true},
		{name: "tU[2]&fR[12]", words: []said{{"", 1, "0"}, {"11", 1, "0"}, {"12", 2, "0"}, {"120", 0, ""}}, watch: true},
		{name: "tU[2]|fR[1]", words: []said{{"", 2, "2"}, {"11", 2, "2"}, {"10", 1, "2"}, {"102", 3, ""}}, watch: true},
		{name: "fR([0]|tU[1])", words: []said{{"", 2, none}, {"2", 1, none}, {"21", 2, none}}},
		{name: "tU([0]&XWf)", words: []said{{"", 1, none}, {"0", 2, none}, {"01", 1, none}}},
		{name: "[1]&fR([0]|tU[1])", words: []said{{"", 1, "0"}, {"0", 0, ""}, {"1", 2, none}, {"12", 1, none}}},
		{name: "[2]|tU([0]&XWf)", words: []said{{"", 1, "2"}, {"2", 3, ""}, {"0", 2, none}, {"1", 1, none}}},
		{name: "fR([02]|X[0])", words: []said{{"", 2, "11"}, {"1", 1, "1"}, {"10", 2, "11"}, {"11", 0, ""}, {"12", 0, ""}}, watch: true},
	}
	for i, c := range all {
		f, err := form.Read(3, c.name)
		d, wrong := back.Make(3, f)
		if err != nil || wrong != nil {
			t.Fatalf("%q: Read = %v, Make = %v", c.name, err, wrong)
		}
		all[i].d = d
	}
	return all
}

// 15.1, 15.2: what formulas say of words while these are read.
func TestFormulas(t *testing.T) {
	for _, c := range formulas(t) {
		checkGiven(t, c)
	}
}

// 15.1, 15.2: for small automata, all of some sizes and every few of others, and for all short
// words, the functions say what the languages of the automata say.
func TestAll(t *testing.T) {
	for _, c := range []struct{ states, letters, step int }{
		{1, 1, 1}, {1, 6, 1}, {2, 1, 1}, {2, 2, 1}, {2, 3, 1}, {3, 1, 1}, {3, 2, 7}, {4, 1, 1}, {3, 3, 4001},
	} {
		// From the start to each state, from there to one that is settled, and on to another one.
		longest := c.states - 1
		letters := sample.Bytes()[:c.letters]
		ends, texts := sample.Texts(longest, letters), sample.Texts(3*longest, letters)
		all := sample.AllDfas(c.states, c.letters)
		for i := 0; i < len(all); i += c.step {
			checkLanguage(t, all[i], sample.Language(all[i], texts), ends)
		}
	}
}

// checkLanguage demands of all functions for some texts what the language of an automaton says.
func checkLanguage(t *testing.T, d api.Dfa, accepted map[string]bool, texts []string) {
	t.Helper()
	watch := watchOfTexts(accepted, texts, texts)
	for _, text := range texts {
		want := answers{verdict: verdictOfTexts(accepted, text, texts), watch: watch}
		soonest, is := soonestOfTexts(accepted, text, texts)
		if want.soonest = sample.Word(soonest); !is {
			want.noSoonest = api.ErrNone
		}
		check(t, d, sample.Word(text), want)
		check(t, d, sample.Word(text), slowly(d, sample.Word(text)))
	}
}

// ended returns an automaton of some seed in which all letters lead back from some states.
func ended(seed uint64, states, letters int) api.Dfa {
	d := sample.Mixed(seed, states, letters)
	below := sample.Below(seed + 1)
	for range below(4) {
		s := below(states)
		sample.Fill(d.Next[s], s)
	}
	return d
}

// several returns automata of all sizes, of which many have states that are settled and others.
func several(seed uint64) []api.Dfa {
	states, letters := 1+int(seed)%40, 1+int(seed)/40%6
	return []api.Dfa{sample.Mixed(seed, states, letters), sample.OneFinal(seed, states, letters), ended(seed, states, letters)}
}

// 15.1, 15.2: for automata of all sizes and words of all lengths, the functions do what the words of the chapter say.
func TestMixed(t *testing.T) {
	verdicts, watched, ends := map[int]int{}, map[bool]int{}, map[bool]int{}
	for seed := range uint64(480) {
		for _, d := range several(seed) {
			for _, length := range []int{int(seed) % 4, int(seed) % 81} {
				w := sample.MixedWord(seed, length, d.Letters)
				want := slowly(d, w)
				check(t, d, w, want)
				verdicts[want.verdict]++
				watched[want.watch]++
				ends[len(want.soonest) > 1]++
			}
		}
	}
	for v := range 4 {
		if verdicts[v] < 100 {
			t.Errorf("the verdicts are found as often as %v", verdicts)
		}
	}
	if min(watched[false], watched[true], ends[false], ends[true]) < 100 {
		t.Errorf("Watch is as often as %v, and ends have more than one letter as often as %v", watched, ends)
	}
}

// 15.1: a word may have to lead through all 40 states before all is settled.
func TestLongWay(t *testing.T) {
	for _, states := range []int{1, 2, 3, 39, 40} {
		for _, final := range []bool{false, true} {
			d := sample.Ring(states-1, 1)
			d.Final = slices.Repeat([]bool{!final}, states)
			d.Final[states-1] = final
			for at := range 81 {
				w := sample.Repeated(at, 0)
				want := answers{soonest: sample.Repeated(max(0, states-1-at), 0), watch: true}
				switch {
				case at >= states-1 && final:
					want.verdict = api.Forever
				case at >= states-1:
					want.verdict = api.Never
				case final:
					want.verdict = api.NotNow
				default:
					want.verdict = api.Now
				}
				check(t, d, w, want)
			}
		}
	}
}

// waiting returns the automaton of 40 states in which one letter of two leads to the next state,
// and the other one back. It accepts what leads to the last state, from where nothing leads away.
func waiting() api.Dfa {
	d := api.Dfa{Letters: 2, Final: make([]bool, 40)}
	for s := range 40 {
		d.Next = append(d.Next, sample.Replaced(sample.Repeated(2, s), s%2, min(s+1, 39)))
	}
	d.Final[39] = true
	return d
}

// 15.1: a word of 80 letters goes on with longer ones.
func TestLongWords(t *testing.T) {
	d := waiting()
	soonest := make([]int, 39)
	for i := range soonest {
		soonest[i] = i % 2
	}
	want := answers{verdict: api.NotNow, soonest: soonest, watch: true}
	for _, length := range []int{0, 1, 41, 42, 79, 80} {
		check(t, d, sample.Repeated(length, 1), want)
	}
	not, _ := dfa.Not(d)
	want.verdict = api.Now
	check(t, not, sample.Repeated(80, 1), want)
	ring := sample.CloneDfa(d)
	ring.Next[39][0] = 0
	for _, length := range []int{0, 79, 80} {
		check(t, ring, sample.Repeated(length, 1), answers{verdict: api.NotNow, noSoonest: api.ErrNone})
	}
}

// 15.1: a shorter word precedes one with smaller letters, and of words of one length the one with
// the smaller letters does, be it settled well or badly behind it.
func TestSoonestPrecedesAll(t *testing.T) {
	for seed := range uint64(400) {
		letters := 2 + int(seed)%2
		d := ended(seed, 3+int(seed)%7, letters)
		w := sample.MixedWord(seed, int(seed)%5, letters)
		soonest, wrong := verdict.Soonest(d, w)
		for _, v := range sample.Words(5, letters) {
			of, err := verdict.Of(d, slices.Concat(w, v))
			if err != nil {
				t.Fatalf("Of(%v, %v and %v) = %v", d, w, v, err)
			}
			if isSettled(of) && wrong != nil {
				t.Fatalf("Soonest(%v, %v) = %v, but behind %v all is settled", d, w, wrong, v)
			}
			if less, _ := word.Less(letters, v, soonest); isSettled(of) && less {
				t.Fatalf("Soonest(%v, %v) = %v, but %v precedes it", d, w, soonest, v)
			}
		}
	}
}

// 15.1: behind the soonest word all is settled, and not before; and what is settled stays so behind each letter.
func TestSettledStays(t *testing.T) {
	for seed := range uint64(480) {
		for _, d := range several(seed) {
			w := sample.MixedWord(seed, int(seed)%40, d.Letters)
			soonest, err := verdict.Soonest(d, w)
			if err != nil {
				continue
			}
			for length := range len(soonest) {
				before := slices.Concat(w, soonest[:length])
				if of, err := verdict.Of(d, before); isSettled(of) || err != nil {
					t.Errorf("Soonest(%v, %v) = %v, but Of of %v = %d, %v", d, w, soonest, before, of, err)
				}
			}
			w = slices.Concat(w, soonest)
			settled, err := verdict.Of(d, w)
			if !isSettled(settled) || err != nil {
				t.Errorf("Of(%v, %v) = %d, %v", d, w, settled, err)
			}
			for letter := range d.Letters {
				if of, err := verdict.Of(d, append(slices.Clone(w), letter)); of != settled || err != nil {
					t.Errorf("Of(%v, %v) = %d, but %d, %v behind %d", d, w, settled, of, err, letter)
				}
			}
			if more, err := verdict.Soonest(d, w); len(more) > 0 || err != nil {
				t.Errorf("Soonest(%v, %v) = %v, %v", d, w, more, err)
			}
		}
	}
}

// 15.1, 15.2: Not exchanges Never with Forever and NotNow with Now, and settles all behind the same words.
func TestNot(t *testing.T) {
	for seed := range uint64(480) {
		for _, d := range several(seed) {
			w := sample.MixedWord(seed, int(seed)%81, d.Letters)
			not, _ := dfa.Not(d)
			want := answers{verdict: 3}
			of, err := verdict.Of(d, w)
			want.verdict -= of
			soonest, noSoonest := verdict.Soonest(d, w)
			want.soonest, want.noSoonest = soonest, plain.Told(noSoonest)
			watch, wrong := verdict.Watch(d)
			want.watch = watch
			if err != nil || wrong != nil {
				t.Errorf("Of(%v, %v) = %v, Watch = %v", d, w, err, wrong)
			}
			check(t, not, w, want)
		}
	}
}

// 15.1, 15.2: the answers do not depend on how an automaton accepts its words.
func TestMinimal(t *testing.T) {
	for seed := range uint64(480) {
		for _, d := range several(seed) {
			minimal, err := small.Minimal(d)
			if err != nil {
				t.Fatalf("Minimal(%v) = %v", d, err)
			}
			w := sample.MixedWord(seed, int(seed)%81, d.Letters)
			check(t, minimal, w, slowly(d, w))
		}
	}
}

// 15.1: it is Never exactly for what Prefixes of safe does not accept; what Always does not accept
// is settled, and so is what Ever accepts.
func TestClasses(t *testing.T) {
	for seed := range uint64(1000) {
		for _, d := range several(seed) {
			w := sample.MixedWord(seed, int(seed)%9, d.Letters)
			prefixes, _ := safe.Prefixes(d)
			begins, err := dfa.Accepts(prefixes, w)
			if of, wrong := verdict.Of(d, w); begins == (of == api.Never) || err != nil || wrong != nil {
				t.Errorf("Of(%v, %v) = %d, %v, but Prefixes accepts it: %v, %v", d, w, of, wrong, begins, err)
			}
			always, _ := safe.Always(d)
			if of, err := verdict.Of(always, w); of == api.NotNow || err != nil {
				t.Errorf("Of(%v, %v) = %d, %v", always, w, of, err)
			}
			ever, _ := safe.Ever(d)
			if of, err := verdict.Of(ever, w); of == api.Now || err != nil {
				t.Errorf("Of(%v, %v) = %d, %v", ever, w, of, err)
			}
		}
	}
}

// 15.1, 15.2: each letter counts, be it the only one behind which all is settled, or the only one behind which nothing is.
func TestLetters(t *testing.T) {
	for letters := 1; letters <= 6; letters++ {
		for letter := range letters {
			for _, final := range []bool{false, true} {
				d := api.Dfa{Letters: letters, Final: []bool{!final, final, true, false}}
				others := sample.Repeated(letters, 0)
				ring := sample.Replaced(sample.Repeated(letters, 2), letter, 3)
				d.Next = [][]int{sample.Replaced(others, letter, 1), sample.Repeated(letters, 1), ring, sample.Repeated(letters, 2)}
				want := answers{verdict: api.Now, soonest: []int{letter}, watch: true}
				if final {
					want.verdict = api.NotNow
				}
				check(t, d, nil, want)
				check(t, sample.Started(d, 2), nil, answers{verdict: api.Now, noSoonest: api.ErrNone})

				// The other letters settle all, and this one leads to the ring.
				d.Next[0] = sample.Replaced(sample.Repeated(letters, 1), letter, 2)
				want = slowly(d, nil)
				if want.watch || letters > 1 && len(want.soonest) != 1 {
					t.Fatalf("the slow way finds %v for %v", want, d)
				}
				check(t, d, nil, want)
				check(t, d, []int{letter}, answers{verdict: api.Now, noSoonest: api.ErrNone})
			}
		}
	}
}

// 15.2: states that no word leads to do not count, neither those that are settled nor the others.
func TestWatchUnreached(t *testing.T) {
	for set := range 1 << 5 {
		d := api.Dfa{Letters: 1, Next: [][]int{{1}, {0}, {2}, {set % 4}}, Final: make([]bool, 4)}
		for s := range d.Final {
			d.Final[s] = set>>s&1 == 1
		}
		if got, err := verdict.Watch(d); got != (d.Final[0] == d.Final[1]) || err != nil {
			t.Errorf("Watch(%v) = %v, %v", d, got, err)
		}
		if got, err := verdict.Watch(sample.Started(d, 2)); !got || err != nil {
			t.Errorf("Watch(%v) from 2 = %v, %v", d, got, err)
		}
		check(t, d, nil, slowly(d, nil))
	}
}

// 15.2: a state far away, behind which nothing is ever settled, counts as all others do.
func TestWatchFarAway(t *testing.T) {
	for at := range 39 {
		d := api.Dfa{Letters: 2, Final: make([]bool, 40)}
		for s := range 38 {
			d.Next = append(d.Next, []int{min(s+1, 37), 37})
		}
		d.Next = append(d.Next, []int{39, 39}, []int{38, 38})
		d.Final[36], d.Final[38] = true, true
		if got, err := verdict.Watch(d); !got || err != nil {
			t.Errorf("Watch(%v) = %v, %v", d, got, err)
		}
		d.Next[at][1] = 38
		want := at >= 38
		if got, err := verdict.Watch(d); got != want || err != nil {
			t.Errorf("Watch(%v) = %v, %v, want %v", d, got, err, want)
		}
		check(t, d, sample.Repeated(at, 0), slowly(d, sample.Repeated(at, 0)))
	}
}

// 15.1, 15.2: the errors of the automaton come first, then those of the word, and with an error there is nothing else.
func TestErrors(t *testing.T) {
	for _, a := range sample.DfaChecks() {
		for _, b := range sample.Checks() {
			want := slowly(a.Dfa, b.Word)
			if want.noWatch != a.Want {
				t.Fatalf("%s: the slow way finds %v, want %v", a.Name, want.noWatch, a.Want)
			}
			check(t, a.Dfa, b.Word, want)
		}
	}
}

// 15.1: of several errors, the first one is returned.
func TestFirstError(t *testing.T) {
	short, outside, ring := sample.Ring(0, 3), sample.Started(sample.Ring(0, 3), 3), sample.Ring(0, 40)
	short.Final = nil
	long, bad := sample.Repeated(81, 0), []int{1}
	cases := []struct {
		d             api.Dfa
		w             []int
		of, no, watch api.Errno
	}{
		{short, long, api.ErrShape, api.ErrShape, api.ErrShape},
		{short, bad, api.ErrShape, api.ErrShape, api.ErrShape},
		{sample.Ring(0, 41), bad, api.ErrFull, api.ErrFull, api.ErrFull},
		{outside, long, api.ErrRange, api.ErrRange, api.ErrRange},
		{ring, long, api.ErrFull, api.ErrFull, api.OK},
		{ring, sample.Replaced(long, 0, -1), api.ErrFull, api.ErrFull, api.OK},
		{ring, bad, api.ErrRange, api.ErrRange, api.OK},
		{ring, sample.Repeated(80, 0), api.OK, api.ErrNone, api.OK},
		{sample.Ring(0, 1), sample.Repeated(80, 0), api.OK, api.OK, api.OK},
		{sample.Ring(0, 1), long, api.ErrFull, api.ErrFull, api.OK},
	}
	for _, c := range cases {
		_, of := verdict.Of(c.d, c.w)
		_, soonest := verdict.Soonest(c.d, c.w)
		_, watch := verdict.Watch(c.d)
		if plain.Told(of) != c.of || plain.Told(soonest) != c.no || plain.Told(watch) != c.watch {
			t.Errorf("for %v and %v, Of = %v, Soonest = %v, Watch = %v, want %v, %v, %v", c.d, c.w, of, soonest, watch, c.of, c.no, c.watch)
		}
	}
}
