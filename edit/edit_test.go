package edit_test

import (
	"slices"
	"strings"
	"testing"

	"stileward/api"
	"stileward/back"
	"stileward/dfa"
	"stileward/edit"
	"stileward/form"
	"stileward/gate"
	"stileward/plain"
	"stileward/safe"
	"stileward/sample"
	"stileward/small"
)

// opened returns a new editor for an automaton that there is one for.
func opened(t *testing.T, d api.Dfa) *edit.Editor {
	t.Helper()
	e, err := edit.New(d)
	if err != nil {
		t.Fatalf("New(%v) = %v", d, err)
	}
	return e
}

// offered offers a letter, and returns what comes of it.
func offered(e *edit.Editor, a int) step {
	gone, err := e.Offer(a)
	return step{gone, plain.Told(err), e.Out(), e.Held()}
}

// equalSteps tells whether two steps are the same.
func equalSteps(a, b step) bool {
	return slices.Equal(a.gone, b.gone) && a.wrong == b.wrong && slices.Equal(a.out, b.out) && slices.Equal(a.held, b.held)
}

// checkNew demands of an editor that nothing has come to it yet.
func checkNew(t *testing.T, d api.Dfa, e *edit.Editor) {
	t.Helper()
	if len(e.Out()) > 0 || len(e.Held()) > 0 {
		t.Errorf("of a new editor of %v, %v went out, and %v are held", d, e.Out(), e.Held())
	}
}

// checkSteps offers letters to an editor, and demands that the same comes of it as there is to.
func checkSteps(t *testing.T, d api.Dfa, e *edit.Editor, offers []int, wants []step) {
	t.Helper()
	for i, want := range wants {
		if got := offered(e, offers[i]); !equalSteps(got, want) {
			t.Fatalf("of %v, behind the offers %v, %d has %v, want %v", d, offers[:i], offers[i], got, want)
		}
	}
}

// check demands of New what the words say, and so of all that is offered to its editor.
func check(t *testing.T, d api.Dfa, offers []int) {
	t.Helper()
	e, err := edit.New(d)
	want := wrongOf(d)
	if plain.Told(err) != want || (e == nil) != (want != api.OK) {
		t.Fatalf("New(%v) = %v, %v, want the error %v", d, e, err, want)
	}
	if want == api.OK {
		checkNew(t, d, e)
		checkSteps(t, d, e, offers, slowly(d, offers))
	}
}

// every accepts the words of one letter whose lengths are multiples of n.
func every(n int) api.Dfa { return sample.Started(sample.Ring(0, n), n-1) }

// behindZero accepts the words of three letters in which there is a 1 behind each 0.
func behindZero() api.Dfa {
	return api.Dfa{Letters: 3, Next: [][]int{{1, 0, 0}, {1, 0, 1}}, Final: sample.Pluses("+-")}
}

// pairs accepts the words of the pairs 01 and 10; states 1 and 5 are of none, and state 5 of no word.
func pairs() api.Dfa {
	return api.Dfa{
		Letters: 2,
		Start:   4,
		Next:    [][]int{{4, 1}, {1, 1}, {1, 4}, {0, 2}, {2, 0}, {4, 3}},
		Final:   sample.Pluses("----++"),
	}
}

// noTwo accepts the words of three letters without the letter 2.
func noTwo() api.Dfa {
	return api.Dfa{Letters: 3, Next: [][]int{{0, 0, 1}, {1, 1, 1}}, Final: sample.Pluses("+-")}
}

// 17.1: an offer is held behind those that are held, and all of them go out if what went out
// and they are accepted.
func TestEditor(t *testing.T) {
	cases := []struct {
		name   string
		d      api.Dfa
		offers string
		gone   string // what goes out at each offer
	}{
		{"no offer", every(1), "", ""},
		{"every word", every(1), "000", "0 0 0"},
		{"every word by more states", sample.WithFinals(sample.Ring(1, 2), "+++"), "000", "0 0 0"},
		{"the empty word alone", sample.WithFinals(sample.Ring(1, 1), "+-"), "000", "- - -"},
		{"one letter at the most", sample.WithFinals(sample.Ring(2, 1), "++-"), "000", "0 - -"},
		{"two letters or none", sample.WithFinals(sample.Ring(3, 1), "+-+-"), "0000", "- 00 - -"},
		{"every other length", every(2), "00000", "- 00 - 00 -"},
		{"every third length", every(3), "0000000", "- - 000 - - 000 -"},
		{"some lengths", sample.WithFinals(sample.Ring(0, 5), "++-+-"), "00000000", "0 - 00 - 00 0 - 00"},
		{"a 1 behind each 0", behindZero(), "2021001", "2 - - 021 - - 001"},
		{"no 1 behind a 0", behindZero(), "1202022", "1 2 - - - - -"},
		{"pairs", pairs(), "011001", "- 01 - 10 - 01"},
		{"pairs and half a pair", pairs(), "10100", "- 10 - 10 -"},
		{"no pair", pairs(), "1101", "- - - -"},
		{"no pair behind pairs", pairs(), "010010", "- 01 - - - -"},
		{"all letters but one", noTwo(), "0101", "0 1 0 1"},
		{"a letter behind which none goes out", noTwo(), "01201", "0 1 - - -"},
		{"that letter first", noTwo(), "20110", "- - - - -"},
		{"that letter last", noTwo(), "0112", "0 1 1 -"},
		{"from a state that no word leads to", sample.Started(pairs(), 5), "001", "0 - 01"},
		{"from where words lead to no other state", api.Dfa{Letters: 1, Start: 2, Next: [][]int{{1}, {0}, {2}}, Final: sample.Pluses("--+")}, "00", "0 0"},
	}
	for _, c := range cases {
		e := opened(t, c.d)
		checkNew(t, c.d, e)
		want := step{}
		for i, gone := range strings.Fields(c.gone) {
			a := sample.Digits(c.offers)[i]
			want.gone, want.held = nil, append(want.held, a)
			if gone != "-" {
				want.gone = sample.Digits(gone)
				want.out, want.held = append(want.out, want.gone...), nil
			}
			if got := offered(e, a); !equalSteps(got, want) {
				t.Errorf("%s: offer %d has %v, want %v", c.name, i, got, want)
			}
		}
		if len(want.out)+len(want.held) != len(c.offers) {
			t.Errorf("%s: not all of %s is offered", c.name, c.offers)
		}
		check(t, c.d, sample.Digits(c.offers))
	}
}

// 17.1: first come the errors of dfa.Check, and then that the empty word is not accepted; and
// with an error there is no editor.
func TestNewErrors(t *testing.T) {
	for _, c := range sample.DfaChecks() {
		if want := wrongOf(c.Dfa); c.Want != api.OK && want != c.Want {
			t.Fatalf("%s: the slow way finds %v, want %v", c.Name, want, c.Want)
		}
		check(t, c.Dfa, []int{0, 0, -1, 0})
	}
	cases := []struct {
		name string
		d    api.Dfa
		want api.Errno
	}{
		{"class 1", sample.WithFinals(sample.Ring(1, 1), "+-"), api.OK},
		{"class 2", behindZero(), api.OK},
		{"class 3", every(1), api.OK},
		{"class 0", pairs(), api.OK},
		{"the empty word alone by 40 states", sample.Started(sample.OneFinal(7, 40, 1), 7), api.OK},
		{"all words but the empty one", sample.Ring(1, 1), api.ErrLost},
		{"words without the empty one", sample.Ring(0, 2), api.ErrLost},
		{"a long word alone", sample.WithFinals(sample.Ring(39, 1), strings.Repeat("-", 38)+"+-"), api.ErrLost},
		{"no word", sample.NoneFinal(every(1)), api.ErrLost},
		{"no word by more states", sample.NoneFinal(sample.Mixed(2, 40, 6)), api.ErrLost},
		{"state 0 final, but not the start", sample.Started(behindZero(), 1), api.ErrLost},
		{"41 states without words", sample.NoneFinal(sample.Ring(0, 41)), api.ErrFull},
		{"no word, and no start", sample.Started(sample.NoneFinal(every(2)), 2), api.ErrRange},
		{"no word, and a final state too few", sample.WithFinals(sample.Ring(0, 3), "--"), api.ErrShape},
		{"no word without letters", api.Dfa{Next: [][]int{{}}, Final: []bool{false}}, api.ErrRange},
	}
	for _, c := range cases {
		e, err := edit.New(c.d)
		if plain.Told(err) != c.want || (e == nil) != (c.want != api.OK) {
			t.Errorf("%s: New(%v) = %v, %v, want the error %v", c.name, c.d, e, err, c.want)
		}
		check(t, c.d, []int{0, 0, 0})
	}
}

// checkNoLetters demands that what is no letter is ErrRange, and that nothing changes by it.
func checkNoLetters(t *testing.T, d api.Dfa, e *edit.Editor) {
	t.Helper()
	want := step{wrong: api.ErrRange, out: e.Out(), held: e.Held()}
	for _, a := range append(sample.NoLetters(), d.Letters) {
		if got := offered(e, a); !equalSteps(got, want) {
			t.Errorf("of %v, the offer %d has %v, want %v", d, a, got, want)
		}
	}
}

// 17.1: what is no letter is ErrRange, whether letters are held or none, and also behind 80 letters.
func TestNoLetters(t *testing.T) {
	for letters := 1; letters <= 6; letters++ {
		for _, finals := range []string{"++-", "+--", "+-+"} {
			d := sample.WithFinals(api.Dfa{Letters: letters}, finals)
			for s := range 3 {
				d.Next = append(d.Next, sample.Repeated(letters, (s+1)%3))
			}
			e := opened(t, d)
			offers := sample.MixedWord(uint64(letters), 80, letters)
			for i, want := range slowly(d, offers) {
				checkNoLetters(t, d, e)
				if got := offered(e, offers[i]); !equalSteps(got, want) {
					t.Fatalf("of %v, offer %d has %v, want %v", d, i, got, want)
				}
			}
			checkNoLetters(t, d, e)
		}
	}
}

// 17.1: behind 80 letters, be they out or held, each one is ErrFull, also one by which all that
// is held would go out, and changes nothing.
func TestFull(t *testing.T) {
	for _, zeros := range []int{0, 1, 2, 39, 40, 41, 78, 79, 80} {
		e := opened(t, behindZero())
		offers := slices.Concat(sample.Repeated(80-zeros, 2), sample.Repeated(zeros, 0))
		for i, a := range offers {
			at := min(i+1, 80-zeros)
			want := step{out: offers[:at], held: offers[at : i+1]}
			if a == 2 {
				want.gone = []int{2}
			}
			if got := offered(e, a); !equalSteps(got, want) {
				t.Fatalf("of %d letters that are held, offer %d has %v, want %v", zeros, i, got, want)
			}
		}
		want := step{wrong: api.ErrFull, out: offers[:80-zeros], held: offers[80-zeros:]}
		for range 3 {
			for a := range 3 {
				if got := offered(e, a); !equalSteps(got, want) {
					t.Errorf("behind 80 letters, of which %d are held, %d has %v", zeros, a, got)
				}
			}
			checkNoLetters(t, behindZero(), e)
		}
	}
}

// 17.1: the 80th letter can still bring out all others, and as many as there are may be held before.
func TestLastLetter(t *testing.T) {
	for _, held := range []int{1, 2, 40, 78, 79} {
		e := opened(t, behindZero())
		offers := slices.Concat(sample.Repeated(79-held, 1), sample.Repeated(held, 0))
		checkSteps(t, behindZero(), e, offers, slowly(behindZero(), offers))
		all := append(offers, 1)
		if got := offered(e, 1); !equalSteps(got, step{gone: all[79-held:], out: all}) {
			t.Errorf("behind %d letters that are held, the 80th has %v", held, got)
		}
		if got := offered(e, 1); !equalSteps(got, step{wrong: api.ErrFull, out: all}) {
			t.Errorf("behind %d letters that were held, the 81st has %v", held, got)
		}
	}
}

// 17.1: for small automata, all of some sizes and every few of others, and for all short words,
// the longest accepted beginning of what is offered goes out, and the rest of it is held.
func TestAll(t *testing.T) {
	editors := 0
	for _, c := range []struct{ states, letters, step int }{
		{1, 1, 1}, {1, 6, 1}, {2, 1, 1}, {2, 2, 1}, {2, 3, 1}, {3, 1, 1}, {3, 2, 7}, {4, 1, 1}, {3, 3, 1009},
	} {
		// From the start to a state that is not final, on from there to one that is, and then once more.
		texts := sample.Texts(2*(c.states-1)+1, sample.Bytes()[:c.letters])
		all := sample.AllDfas(c.states, c.letters)
		for i := 0; i < len(all); i += c.step {
			accepted := sample.Language(all[i], texts)
			_, err := edit.New(all[i])
			if (err == nil) != accepted[""] || err != nil && plain.Told(err) != api.ErrLost {
				t.Errorf("New(%v) = %v, but the empty word is accepted: %v", all[i], err, accepted[""])
			}
			if err == nil {
				checkTexts(t, all[i], accepted, texts)
				editors++
			}
		}
	}
	if editors < 2000 {
		t.Errorf("there are %d editors", editors)
	}
}

// checkTexts demands of an editor for some texts what the accepted ones of them say.
func checkTexts(t *testing.T, d api.Dfa, accepted map[string]bool, texts []string) {
	t.Helper()
	for _, text := range texts {
		e := opened(t, d)
		before := ""
		for i, a := range sample.Word(text) {
			longest := longestOf(accepted, text[:i+1])
			gone, err := e.Offer(a)
			if !slices.Equal(gone, sample.Word(longest[len(before):])) || err != nil {
				t.Errorf("of %v, the offer %d of %q has %v, %v", d, i, text, gone, err)
			}
			before = longest
		}
		if !slices.Equal(e.Out(), sample.Word(before)) || !slices.Equal(e.Held(), sample.Word(text[len(before):])) {
			t.Errorf("of %v, behind %q, Out is %v and Held %v", d, text, e.Out(), e.Held())
		}
	}
}

// several returns automata of all sizes. There are editors for most of them.
func several(seed uint64) []api.Dfa {
	states, letters := 1+int(seed)%40, 1+int(seed)/40%6
	mixed, few := sample.Mixed(seed, states, letters), sample.OneFinal(seed, states, letters)
	started := sample.CloneDfa(mixed)
	started.Final[started.Start] = true
	return []api.Dfa{mixed, started, few, sample.Started(few, slices.Index(few.Final, true))}
}

// 17.1: for automata of all sizes and offers of all numbers, the functions do what the words of the chapter say.
func TestMixed(t *testing.T) {
	errors, outs, helds := map[api.Errno]int{}, map[int]int{}, map[int]int{}
	for seed := range uint64(960) {
		for _, d := range several(seed) {
			offers := sample.MixedOffers(seed, int(seed)%120, d.Letters)
			check(t, d, offers)
			wrong := wrongOf(d)
			errors[wrong]++
			if steps := slowly(d, offers); wrong == api.OK && len(steps) > 0 {
				last := steps[len(steps)-1]
				outs[(len(last.out)+9)/10]++
				helds[(len(last.held)+9)/10]++
			}
		}
	}
	if min(errors[api.OK], errors[api.ErrLost]) < 300 {
		t.Errorf("the errors of New are as often as %v", errors)
	}
	for tens := range 9 {
		if outs[tens] < 10 || helds[tens] < 10 {
			t.Errorf("as many tens of letters go out as often as %v, and are held as often as %v", outs, helds)
		}
	}
}

// 17.1: what went out is accepted at every step, no longer beginning of what was offered is, and
// what is held is all the rest of it.
func TestAsLongAsPossible(t *testing.T) {
	for seed := range uint64(480) {
		for _, d := range several(seed) {
			if wrongOf(d) != api.OK {
				continue
			}
			e := opened(t, d)
			offers := sample.MixedWord(seed, 80, d.Letters)
			for i, a := range offers {
				offered(e, a)
				out := e.Out()
				if is, err := dfa.Accepts(d, out); !is || err != nil || !slices.Equal(slices.Concat(out, e.Held()), offers[:i+1]) {
					t.Fatalf("of %v, behind %v, Out is %v, accepted: %v, %v, and Held %v", d, offers[:i+1], out, is, err, e.Held())
				}
				for longer := len(out) + 1; longer <= i+1; longer++ {
					if is, err := dfa.Accepts(d, offers[:longer]); is || err != nil {
						t.Fatalf("of %v, Out is %v, but %v is accepted: %v, %v", d, out, offers[:longer], is, err)
					}
				}
			}
		}
	}
}

// 17.1: a word may have to lead through all 40 states before what is held goes out.
func TestLongWay(t *testing.T) {
	for _, states := range []int{2, 3, 26, 27, 39, 40} {
		e := opened(t, every(states))
		for i := range 80 {
			got := offered(e, 0)
			out := (i + 1) / states * states
			if len(got.out) != out || len(got.held) != i+1-out || len(got.gone) > 0 != (out == i+1) || len(got.gone)%states != 0 {
				t.Errorf("of %d states, offer %d has %v", states, i, got)
			}
		}
		check(t, every(states), sample.Repeated(90, 0))
		d := sample.Ring(states-1, 1)
		d.Final[0] = true
		check(t, d, sample.Repeated(90, 0))
	}
}

// 17.1: each letter counts, be it the only one that brings out what is held or the only one that does not.
func TestLetters(t *testing.T) {
	for letters := 1; letters <= 6; letters++ {
		for letter := range letters {
			for _, final := range []bool{false, true} {
				d := api.Dfa{Letters: letters, Final: []bool{true, final, !final, false}}
				d.Next = [][]int{
					sample.Repeated(letters, 3), sample.Repeated(letters, 1), sample.Repeated(letters, 2),
					sample.Replaced(sample.Repeated(letters, 2), letter, 1),
				}
				for a := range letters {
					e := opened(t, d)
					want := step{held: []int{letter}}
					if got := offered(e, letter); !equalSteps(got, want) {
						t.Errorf("of %v, %d has %v first", d, letter, got)
					}
					want = step{held: []int{letter, a}}
					if (a == letter) == final {
						want = step{gone: want.held, out: want.held}
					}
					if got := offered(e, a); !equalSteps(got, want) {
						t.Errorf("of %v, %d has %v behind %d", d, a, got, letter)
					}
					check(t, d, []int{a, letter, a, 0})
				}
			}
		}
	}
}

// 17.1: editors of one automaton do not know of each other.
func TestApart(t *testing.T) {
	for _, d := range []api.Dfa{behindZero(), pairs(), noTwo(), every(2)} {
		words := sample.Words(4, d.Letters)
		for i, v := range words {
			w := words[len(words)-1-i]
			e, f := opened(t, d), opened(t, d)
			wantsV, wantsW := slowly(d, v), slowly(d, w)
			for at := range max(len(v), len(w)) {
				if at < len(v) {
					checkSteps(t, d, e, v[at:at+1], wantsV[at:at+1])
				}
				if at < len(w) {
					checkSteps(t, d, f, w[at:at+1], wantsW[at:at+1])
				}
			}
		}
	}
}

// 17.1: what goes out does not depend on how an automaton accepts its words.
func TestMinimal(t *testing.T) {
	for seed := range uint64(480) {
		for _, d := range several(seed) {
			minimal, err := small.Minimal(d)
			if err != nil {
				t.Fatalf("Minimal(%v) = %v", d, err)
			}
			e, wrong := edit.New(minimal)
			if want := wrongOf(d); plain.Told(wrong) != want {
				t.Fatalf("New(%v) = %v, want %v", minimal, wrong, want)
			}
			if wrong == nil {
				offers := sample.MixedWord(seed, 90, d.Letters)
				checkSteps(t, minimal, e, offers, slowly(d, offers))
			}
		}
	}
}

// 17.1: where there is a gate, what passes it goes out at once, and nothing else ever does.
func TestGates(t *testing.T) {
	gates := 0
	for seed := range uint64(480) {
		for _, mixed := range several(seed) {
			d, err := safe.Prefixes(mixed)
			if err != nil {
				t.Fatalf("Prefixes(%v) = %v", mixed, err)
			}
			g, err := gate.New(d)
			if err != nil {
				continue
			}
			gates++
			e := opened(t, d)
			for i, a := range sample.MixedWord(seed, 80, d.Letters) {
				passes, err := g.Offer(a)
				got := offered(e, a)
				if passes != slices.Equal(got.gone, []int{a}) || err != nil || !slices.Equal(got.out, g.Out()) {
					t.Fatalf("of %v, offer %d has %v, but of a gate %v, %v", d, i, got, passes, err)
				}
			}
		}
	}
	if gates < 500 {
		t.Errorf("there are %d gates", gates)
	}
}

// 17.1: what of formulas goes out, and what is held.
func TestFormulas(t *testing.T) {
	cases := []struct {
		text   string
		want   api.Errno
		offers string
		out    string
	}{
		{"t", api.OK, "01200", "01200"},
		{"f", api.ErrLost, "", ""},
		{"fR[1]", api.OK, "11101", "111"},
		{"Wf", api.OK, "01", ""},
		{"WWf", api.OK, "01", "0"},
		{"fR(![0]|X[1])", api.OK, "2010100", "20101"},
		{"fR(![0]|X[1])", api.OK, "20010", "2"},
		{"fR(![0]|X(tU[1]))", api.OK, "2000210", "200021"},
		{"fR([12]|X([01]U[1]))", api.OK, "20010021", "2001"},
		{"Wf|tU[1]", api.OK, "02012", "02012"},
		{"Wf|tU[1]", api.OK, "0202", ""},
		{"Wf|tU([1]&XWf)", api.OK, "02010", "0201"},
		{"tU[1]", api.ErrLost, "", ""},
		{"Xt", api.ErrLost, "", ""},
		{"(tU[1])|(fR[02])", api.OK, "0201", "0201"},
	}
	for _, c := range cases {
		f, err := form.Read(3, c.text)
		d, wrong := back.Make(3, f)
		if err != nil || wrong != nil {
			t.Fatalf("%q: Read = %v, Make = %v", c.text, err, wrong)
		}
		e, err := edit.New(d)
		if plain.Told(err) != c.want {
			t.Errorf("New of %q, %v = %v, want %v", c.text, d, err, c.want)
		}
		if err != nil {
			continue
		}
		for _, a := range sample.Digits(c.offers) {
			offered(e, a)
		}
		if !slices.Equal(e.Out(), sample.Digits(c.out)) || !slices.Equal(e.Held(), sample.Digits(c.offers[len(c.out):])) {
			t.Errorf("of %q, behind %s, Out is %v and Held %v", c.text, c.offers, e.Out(), e.Held())
		}
		check(t, d, sample.Digits(c.offers))
	}
}
