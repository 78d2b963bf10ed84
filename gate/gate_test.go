package gate_test

import (
	"slices"
	"testing"

	"stileward/api"
	"stileward/back"
	"stileward/dfa"
	"stileward/form"
	"stileward/gate"
	"stileward/plain"
	"stileward/safe"
	"stileward/sample"
	"stileward/small"
)

// opened returns a new gate for an automaton that there is one for.
func opened(t *testing.T, d api.Dfa) *gate.Gate {
	t.Helper()
	g, err := gate.New(d)
	if err != nil {
		t.Fatalf("New(%v) = %v", d, err)
	}
	return g
}

// offered offers a letter, and returns what comes of it.
func offered(g *gate.Gate, a int) step {
	passes, err := g.Offer(a)
	return step{passes, plain.Told(err), g.Out(), g.Shut()}
}

// equalSteps tells whether two steps are the same.
func equalSteps(a, b step) bool {
	return a.passes == b.passes && a.wrong == b.wrong && slices.Equal(a.out, b.out) && a.shut == b.shut
}

// checkNew demands of a gate that nothing has come to it yet.
func checkNew(t *testing.T, d api.Dfa, g *gate.Gate) {
	t.Helper()
	if len(g.Out()) > 0 || g.Shut() {
		t.Errorf("a new gate of %v has let %v pass, and is shut: %v", d, g.Out(), g.Shut())
	}
}

// checkSteps offers letters to a gate, and demands that the same comes of it as there is to.
func checkSteps(t *testing.T, d api.Dfa, g *gate.Gate, offers []int, wants []step) {
	t.Helper()
	for i, want := range wants {
		if got := offered(g, offers[i]); !equalSteps(got, want) {
			t.Fatalf("of %v, behind the offers %v, %d has %v, want %v", d, offers[:i], offers[i], got, want)
		}
	}
}

// check demands of New what the words say, and so of all that is offered to its gate.
func check(t *testing.T, d api.Dfa, offers []int) {
	t.Helper()
	g, err := gate.New(d)
	want := wrongOf(d)
	if plain.Told(err) != want || (g == nil) != (want != api.OK) {
		t.Fatalf("New(%v) = %v, %v, want the error %v", d, g, err, want)
	}
	if want == api.OK {
		checkNew(t, d, g)
		checkSteps(t, d, g, offers, slowly(d, offers))
	}
}

// noTwo accepts the words of three letters without the letter 2.
func noTwo() api.Dfa {
	return api.Dfa{Letters: 3, Next: [][]int{{0, 1, 2}, {0, 0, 2}, {2, 2, 2}}, Final: sample.Pluses("++-")}
}

// oneWord accepts the beginnings of the word 0, 1: the states 1 and 5 are of no word.
func oneWord() api.Dfa {
	return api.Dfa{
		Letters: 2,
		Start:   3,
		Next:    [][]int{{4, 2}, {3, 5}, {4, 4}, {0, 4}, {4, 4}, {4, 0}},
		Final:   sample.Pluses("+-++-+"),
	}
}

// inTurn accepts the words in which the letters 0 and 1 take turns; state 3 is of no word.
func inTurn() api.Dfa {
	return api.Dfa{
		Letters: 2,
		Start:   4,
		Next:    [][]int{{0, 0}, {0, 2}, {1, 0}, {3, 4}, {1, 2}},
		Final:   sample.Pluses("-++-+"),
	}
}

// 16.1: an offer passes if it is accepted behind what has passed, and nothing does behind one that does not.
func TestGate(t *testing.T) {
	cases := []struct {
		name   string
		d      api.Dfa
		offers string
		passes string
	}{
		{"no offer", sample.Ring(0, 1), "", ""},
		{"every word", sample.Ring(0, 1), "0000", "++++"},
		{"every word by more states", sample.WithFinals(sample.Ring(1, 2), "+++"), "0000", "++++"},
		{"the empty word alone", sample.WithFinals(sample.Ring(1, 1), "+-"), "000", "---"},
		{"one letter at the most", sample.WithFinals(sample.Ring(2, 1), "++-"), "000", "+--"},
		{"all letters but one", noTwo(), "010110", "++++++"},
		{"a letter that never passes", noTwo(), "01201", "++---"},
		{"a letter that never passes first", noTwo(), "20110", "-----"},
		{"a letter that never passes last", noTwo(), "01102", "++++-"},
		{"that letter twice", noTwo(), "02020", "+----"},
		{"a word", oneWord(), "01", "++"},
		{"more than a word", oneWord(), "010", "++-"},
		{"a word twice", oneWord(), "0101", "++--"},
		{"another word", oneWord(), "001", "+--"},
		{"another letter", oneWord(), "101", "---"},
		{"letters in turn", inTurn(), "01010", "+++++"},
		{"letters in turn from the other one on", inTurn(), "10101", "+++++"},
		{"a letter twice", inTurn(), "0110", "++--"},
		{"a letter that would have passed later", inTurn(), "00101", "+----"},
		{"from where words lead to no other state", sample.Started(oneWord(), 2), "01", "--"},
		{"states that no word leads to", api.Dfa{Letters: 1, Start: 2, Next: [][]int{{1}, {0}, {2}}, Final: sample.Pluses("-++")}, "000", "+++"},
	}
	for _, c := range cases {
		g := opened(t, c.d)
		checkNew(t, c.d, g)
		want := step{}
		for i, passes := range sample.Pluses(c.passes) {
			a := sample.Digits(c.offers)[i]
			if passes {
				want.out = append(want.out, a)
			}
			want.passes, want.shut = passes, !passes
			if got := offered(g, a); !equalSteps(got, want) {
				t.Errorf("%s: offer %d has %v, want %v", c.name, i, got, want)
			}
		}
		check(t, c.d, sample.Digits(c.offers))
	}
}

// 16.1: first come the errors of dfa.Check, then that some accepted word has a beginning that is
// not, and last that the empty word is not accepted; and with an error there is no gate.
func TestNewErrors(t *testing.T) {
	for _, c := range sample.DfaChecks() {
		if want := wrongOf(c.Dfa); c.Want != api.OK && want != c.Want {
			t.Fatalf("%s: the slow way finds %v, want %v", c.Name, want, c.Want)
		}
		check(t, c.Dfa, []int{0, 0, -1, 0})
	}
	cases := []struct {
		name string
		d    api.Dfa
		want api.Errno
	}{
		{"class 1", sample.WithFinals(sample.Ring(1, 1), "+-"), api.OK},
		{"class 3", sample.Ring(0, 1), api.OK},
		{"class 2", sample.Ring(1, 1), api.ErrShape},
		{"class 2 behind many letters", sample.Ring(39, 1), api.ErrShape},
		{"class 0 with the empty word", sample.WithFinals(sample.Ring(0, 2), "+-"), api.ErrShape},
		{"class 0 without the empty word", sample.WithFinals(sample.Ring(0, 2), "-+"), api.ErrShape},
		{"class 0 by one long word", sample.WithFinals(sample.Ring(3, 1), "++-+"), api.ErrShape},
		{"no word", sample.NoneFinal(sample.Ring(0, 1)), api.ErrLost},
		{"no word by more states", sample.NoneFinal(sample.Mixed(2, 40, 6)), api.ErrLost},
		{"no word where final states are not reached", sample.Started(oneWord(), 4), api.ErrLost},
		{"41 states without words", sample.NoneFinal(sample.Ring(0, 41)), api.ErrFull},
		{"class 2 without a start", sample.Started(sample.Ring(1, 1), 2), api.ErrRange},
		{"class 0 with a final state too few", sample.WithFinals(sample.Ring(0, 3), "+-"), api.ErrShape},
		{"no word without letters", api.Dfa{Next: [][]int{{}}, Final: []bool{false}}, api.ErrRange},
	}
	for _, c := range cases {
		g, err := gate.New(c.d)
		if plain.Told(err) != c.want || (g == nil) != (c.want != api.OK) {
			t.Errorf("%s: New(%v) = %v, %v, want the error %v", c.name, c.d, g, err, c.want)
		}
		check(t, c.d, []int{0, 0, 0})
	}
}

// checkNoLetters demands that what is no letter is ErrRange, and that nothing changes by it.
func checkNoLetters(t *testing.T, d api.Dfa, g *gate.Gate) {
	t.Helper()
	want := step{wrong: api.ErrRange, out: g.Out(), shut: g.Shut()}
	for _, a := range append(sample.NoLetters(), d.Letters) {
		if got := offered(g, a); !equalSteps(got, want) {
			t.Errorf("of %v, the offer %d has %v, want %v", d, a, got, want)
		}
	}
}

// 16.1: what is no letter is ErrRange, be the gate open, full or shut, and changes nothing.
func TestNoLetters(t *testing.T) {
	for letters := 1; letters <= 6; letters++ {
		d := sample.WithFinals(api.Dfa{Letters: letters, Next: [][]int{sample.Repeated(letters, 0)}}, "+")
		g := opened(t, d)
		for i := range 80 {
			checkNoLetters(t, d, g)
			if got := offered(g, i%letters); !got.passes || len(got.out) != i+1 {
				t.Fatalf("of %v, offer %d has %v", d, i, got)
			}
		}
		checkNoLetters(t, d, g)

		d.Next = [][]int{sample.Replaced(sample.Repeated(letters, 0), letters-1, 1), sample.Repeated(letters, 1)}
		d.Final = sample.Pluses("+-")
		g = opened(t, d)
		checkNoLetters(t, d, g)
		if got := offered(g, letters-1); !equalSteps(got, step{shut: true}) {
			t.Fatalf("of %v, the last letter has %v", d, got)
		}
		for range 100 {
			checkNoLetters(t, d, g)
			if got := offered(g, 0); !equalSteps(got, step{shut: true}) {
				t.Fatalf("of %v, the first letter has %v behind the last one", d, got)
			}
		}
	}
}

// 16.1: behind 80 letters every letter is ErrFull, also one that would not pass, and changes nothing.
func TestFull(t *testing.T) {
	g := opened(t, noTwo())
	passed := sample.MixedWord(1, 80, 2)
	for i, a := range passed {
		if got := offered(g, a); !equalSteps(got, step{passes: true, out: passed[:i+1]}) {
			t.Fatalf("offer %d has %v", i, got)
		}
	}
	for range 3 {
		for a := range 3 {
			if got := offered(g, a); !equalSteps(got, step{wrong: api.ErrFull, out: passed}) {
				t.Errorf("behind 80 letters, %d has %v", a, got)
			}
		}
		checkNoLetters(t, noTwo(), g)
	}
}

// 16.1: a gate that is shut is never full, however many letters have passed before and are offered then.
func TestShutIsNotFull(t *testing.T) {
	for _, length := range []int{0, 1, 40, 78, 79} {
		g := opened(t, noTwo())
		passed := sample.MixedWord(uint64(length), length, 2)
		checkSteps(t, noTwo(), g, passed, slowly(noTwo(), passed))
		for i := range 200 {
			if got := offered(g, 2-i%3); !equalSteps(got, step{out: passed, shut: true}) {
				t.Fatalf("behind %d letters that pass and %d others, %d has %v", length, i, 2-i%3, got)
			}
		}
	}
}

// 16.1: for small automata, all of some sizes and every few of others, and for all short words,
// the longest accepted beginning of what is offered passes.
func TestAll(t *testing.T) {
	gates := 0
	for _, c := range []struct{ states, letters, step int }{
		{1, 1, 1}, {1, 6, 1}, {2, 1, 1}, {2, 2, 1}, {2, 3, 1}, {3, 1, 1}, {3, 2, 7}, {4, 1, 1}, {3, 3, 1009},
	} {
		// From the start to a state that is not final, and on from there to one that is.
		texts := sample.Texts(2*(c.states-1), sample.Bytes()[:c.letters])
		all := sample.AllDfas(c.states, c.letters)
		for i := 0; i < len(all); i += c.step {
			accepted := sample.Language(all[i], texts)
			want := wrongOfTexts(accepted)
			if _, err := gate.New(all[i]); plain.Told(err) != want {
				t.Errorf("New(%v) = %v, want %v", all[i], err, want)
			}
			if want == api.OK {
				checkTexts(t, all[i], accepted, texts)
				gates++
			}
		}
	}
	if gates < 500 {
		t.Errorf("there are %d gates", gates)
	}
}

// checkTexts demands of a gate for some texts what the accepted ones of them say.
func checkTexts(t *testing.T, d api.Dfa, accepted map[string]bool, texts []string) {
	t.Helper()
	for _, text := range texts {
		g := opened(t, d)
		longest := longestOf(accepted, text)
		for i, a := range sample.Word(text) {
			if passes, err := g.Offer(a); passes != (i < len(longest)) || err != nil {
				t.Errorf("of %v, the offer %d of %q has %v, %v", d, i, text, passes, err)
			}
		}
		if !slices.Equal(g.Out(), sample.Word(longest)) || g.Shut() != (len(longest) < len(text)) {
			t.Errorf("of %v, behind %q, Out is %v and Shut %v", d, text, g.Out(), g.Shut())
		}
	}
}

// mostlyFinal returns an automaton of which few words are not accepted, and no word behind them is.
func mostlyFinal(t *testing.T, seed uint64, states, letters int) api.Dfa {
	t.Helper()
	not := sample.OneFinal(seed, states, letters)
	d, err := dfa.Not(not)
	always, wrong := safe.Always(d)
	if err != nil || wrong != nil {
		t.Fatalf("Not(%v) = %v, Always = %v", not, err, wrong)
	}
	return always
}

// several returns automata of all sizes. There are gates for many of them.
func several(t *testing.T, seed uint64) []api.Dfa {
	t.Helper()
	states, letters := 1+int(seed)%40, 1+int(seed)/40%6
	mixed := sample.Mixed(seed, states, letters)
	always, err := safe.Always(mixed)
	prefixes, wrong := safe.Prefixes(sample.OneFinal(seed, states, letters))
	if err != nil || wrong != nil {
		t.Fatalf("Always = %v, Prefixes = %v", err, wrong)
	}
	return []api.Dfa{mixed, always, prefixes, mostlyFinal(t, seed, states, letters)}
}

// 16.1: for automata of all sizes and offers of all numbers, the functions do what the words of the chapter say.
func TestMixed(t *testing.T) {
	errors, outs := map[api.Errno]int{}, map[int]int{}
	for seed := range uint64(960) {
		for _, d := range several(t, seed) {
			offers := sample.MixedOffers(seed, int(seed)%120, d.Letters)
			check(t, d, offers)
			wrong := wrongOf(d)
			errors[wrong]++
			if steps := slowly(d, offers); wrong == api.OK && len(steps) > 0 {
				outs[(len(steps[len(steps)-1].out)+9)/10]++
			}
		}
	}
	if min(errors[api.OK], errors[api.ErrShape], errors[api.ErrLost]) < 300 {
		t.Errorf("the errors of New are as often as %v", errors)
	}
	for tens := range 9 {
		if outs[tens] < 10 {
			t.Errorf("as many tens of letters pass as often as %v", outs)
		}
	}
}

// 16.1: what passes is accepted at every step, and when the gate is shut, no longer beginning
// of what was offered is.
func TestAsLongAsPossible(t *testing.T) {
	for seed := range uint64(480) {
		for _, d := range several(t, seed) {
			if wrongOf(d) != api.OK {
				continue
			}
			g := opened(t, d)
			offers := sample.MixedWord(seed, 80, d.Letters)
			for i, a := range offers {
				offered(g, a)
				out := g.Out()
				is, err := dfa.Accepts(d, out)
				if !is || err != nil || !slices.Equal(out, offers[:len(out)]) || len(out) > i+1 {
					t.Fatalf("of %v, behind %v, Out is %v, accepted: %v, %v", d, offers[:i+1], out, is, err)
				}
				longer, err := dfa.Accepts(d, offers[:i+1])
				if longer != (len(out) == i+1) || longer == g.Shut() || err != nil {
					t.Fatalf("of %v, behind %v, Out is %v, Shut %v", d, offers[:i+1], out, g.Shut())
				}
			}
		}
	}
}

// 16.1: a word may have to lead through all 40 states before one does not pass.
func TestLongWay(t *testing.T) {
	for _, states := range []int{2, 3, 39, 40} {
		d := sample.Ring(states-1, 1)
		d.Final = slices.Repeat([]bool{true}, states)
		check(t, d, sample.Repeated(90, 0))
		d.Final[states-1] = false
		check(t, d, sample.Repeated(90, 0))
		g := opened(t, d)
		for i := range 90 {
			if got := offered(g, 0); got.passes != (i+1 < states-1) {
				t.Errorf("of %d states, offer %d has %v", states, i, got)
			}
		}
		d.Final[states-1], d.Final[states-2] = true, false
		check(t, d, sample.Repeated(90, 0))
	}
}

// 16.1: each letter counts, be it the only one that passes or the only one that does not.
func TestLetters(t *testing.T) {
	for letters := 1; letters <= 6; letters++ {
		for letter := range letters {
			for _, final := range []bool{false, true} {
				d := api.Dfa{Letters: letters, Final: []bool{true, final, !final}}
				d.Next = [][]int{sample.Replaced(sample.Repeated(letters, 2), letter, 1), sample.Repeated(letters, 1), sample.Repeated(letters, 2)}
				for a := range letters {
					g := opened(t, d)
					if passes, err := g.Offer(a); passes != ((a == letter) == final) || err != nil {
						t.Errorf("of %v, %d has %v, %v", d, a, passes, err)
					}
					check(t, d, []int{a, a, letter, 0})
				}
			}
		}
	}
}

// 16.1: gates of one automaton do not know of each other.
func TestApart(t *testing.T) {
	for _, d := range []api.Dfa{noTwo(), oneWord(), inTurn(), sample.Ring(0, 1)} {
		words := sample.Words(4, d.Letters)
		for i, v := range words {
			w := words[len(words)-1-i]
			g, h := opened(t, d), opened(t, d)
			wantsV, wantsW := slowly(d, v), slowly(d, w)
			for at := range max(len(v), len(w)) {
				if at < len(v) {
					checkSteps(t, d, g, v[at:at+1], wantsV[at:at+1])
				}
				if at < len(w) {
					checkSteps(t, d, h, w[at:at+1], wantsW[at:at+1])
				}
			}
		}
	}
}

// 16.1: what passes does not depend on how an automaton accepts its words.
func TestMinimal(t *testing.T) {
	for seed := range uint64(480) {
		for _, d := range several(t, seed) {
			minimal, err := small.Minimal(d)
			if err != nil {
				t.Fatalf("Minimal(%v) = %v", d, err)
			}
			g, wrong := gate.New(minimal)
			if want := wrongOf(d); plain.Told(wrong) != want {
				t.Fatalf("New(%v) = %v, want %v", minimal, wrong, want)
			}
			if wrong == nil {
				offers := sample.MixedWord(seed, 90, d.Letters)
				checkSteps(t, minimal, g, offers, slowly(d, offers))
			}
		}
	}
}

// 16.1: what formulas let pass.
func TestFormulas(t *testing.T) {
	cases := []struct {
		text   string
		want   api.Errno
		offers string
		out    string
	}{
		{"t", api.OK, "01200", "01200"},
		{"f", api.ErrLost, "", ""},
		{"fR[1]", api.OK, "11101", "111"},
		{"Wf", api.OK, "01", ""},
		{"WWf", api.OK, "01", "0"},
		{"fR(![0]|W(!Xt|[1]))", api.OK, "01021", "010"},
		{"fR(![0]|W(fR[12]))", api.OK, "12012021", "12012"},
		{"fR(![0]|W[1])", api.ErrShape, "", ""},
		{"(fR[12])|(fR[01])", api.OK, "11011120", "110111"},
		{"(tU[1])|(fR[02])", api.OK, "02012", "02012"},
		{"(tU[1])&(fR[02])", api.ErrLost, "", ""},
		{"tU[1]", api.ErrShape, "", ""},
		{"fR([0]|tU[1])", api.ErrShape, "", ""},
		{"fR(![0]|X[1])", api.ErrShape, "", ""},
	}
	for _, c := range cases {
		f, err := form.Read(3, c.text)
		d, wrong := back.Make(3, f)
		if err != nil || wrong != nil {
			t.Fatalf("%q: Read = %v, Make = %v", c.text, err, wrong)
		}
		g, err := gate.New(d)
		if plain.Told(err) != c.want {
			t.Errorf("New of %q, %v = %v, want %v", c.text, d, err, c.want)
		}
		if err != nil {
			continue
		}
		for _, a := range sample.Digits(c.offers) {
			offered(g, a)
		}
		if !slices.Equal(g.Out(), sample.Digits(c.out)) || g.Shut() != (len(c.out) < len(c.offers)) {
			t.Errorf("of %q, behind %s, Out is %v and Shut %v", c.text, c.offers, g.Out(), g.Shut())
		}
		check(t, d, sample.Digits(c.offers))
	}
}
