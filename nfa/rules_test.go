package nfa_test

import (
	"math"
	"slices"
	"testing"

	"stileward/api"
	"stileward/nfa"
	"stileward/plain"
	"stileward/sample"
)

// P1: whatever the arguments, all functions return normally and do what the words say.
func FuzzNfa(f *testing.F) {
	f.Add(1, 1, "\x00", "\x00\x00\x00", "\x00", "\x00\x00", 0, "\x00", "\x01")
	f.Add(2, 3, "\x00", "\x00\x00\x00\x00\xff\x01\x01\x01\x01\x01\xff\x02", "\x02", "\x00\x01", 1, "\x00\x01\x01\x00", "\x00\x01")
	f.Add(2, 4, "\x03\x01", "\x00\x01\x00\x00\x01\x01\x01\x00\x02\x02\xff\x03", "\x03\x03", "\x01\x01", 2, "\x00\x01\x02\x02\x01\x00", "\x00\x00\x01")
	f.Add(6, 40, "\x27\x00", "\x27\x05\x00\x00\xff\x27", "\x00", "\x05\x05", 0, "\x00\x00\x00\x00\x00\x00", "\x01")
	f.Add(0, 0, "", "", "", "", 0, "", "")
	f.Add(-1, -1, "\xff", "\xff\xff\xff", "\xff", "\xff", -1, "\xff", "\x00")
	f.Add(7, 41, "\x29", "\x00\x07\x00", "\x29", "\x07", math.MaxInt, "\x00\x00\x00\x00\x00\x00\x00", "\x01")
	f.Add(math.MaxInt, math.MinInt, "\x00", "\x00\x00\x00", "\x00", "", math.MinInt, "\x00", "\x01")
	f.Fuzz(func(t *testing.T, letters, states int, starts, moves, finals, text string, start int, rows, dfaFinals string) {
		n, d := textual(letters, states, starts, moves, finals), sample.Dfa(letters, start, rows, dfaFinals)
		checkAll(t, n, d, sample.Word(text))
		if of, err := nfa.Of(d); err == nil {
			checkAll(t, of, d, sample.Word(text))
		}
	})
}

// checkAll demands of all functions what the words say.
func checkAll(t *testing.T, n api.Nfa, d api.Dfa, w []int) {
	t.Helper()
	if err := nfa.Check(n); plain.Told(err) != wrongOf(n) {
		t.Errorf("Check(%v) = %v, want %v", n, err, wrongOf(n))
	}
	checkAccepts(t, n, w)
	checkMake(t, n)
	checkMirror(t, n)
	checkOf(t, d)
}

// P2, P4: all functions leave their arguments and what is behind them as they are, and read nothing there.
func TestArgumentsAreLeft(t *testing.T) {
	words, dfas := sample.Checks(), sample.DfaChecks()
	for i, c := range nfaChecks() {
		n, intactN := roomyNfa(c.nfa)
		d, intactD := sample.RoomyDfa(dfas[i%len(dfas)].Dfa)
		w, intactW := sample.Roomy(words[i%len(words)].Word)
		checkAll(t, n, d, w)
		checkAll(t, n, d, nil)
		if !intactN() || !intactD() || !intactW() {
			t.Errorf("%s: an argument, or memory behind it, is changed", c.name)
		}
	}
}

// P2: the lists of an automaton, and a word, may be one.
func TestSharedArguments(t *testing.T) {
	list := []int{1, 0, 1}
	n := api.Nfa{Letters: 2, States: 2, Starts: list, Moves: []api.Move{move(0, 1, 1)}, Final: list}
	row := list[:2]
	d := api.Dfa{Letters: 2, Start: 1, Next: [][]int{row, row}, Final: []bool{true, false}}
	checkAll(t, n, d, list)
	mirror, err := nfa.Mirror(n)
	intact := spoilNfa(mirror, -100)
	if !intact() || err != nil {
		t.Errorf("lists of Mirror(%v) share memory, %v", n, err)
	}
	if !slices.Equal(list, []int{1, 0, 1}) {
		t.Errorf("the list became %v", list)
	}
}

// several are automata for which Make has no error.
func several() []api.Nfa {
	return []api.Nfa{back(3), blocks(), round(), chain(39, 0), {Letters: 3, States: 2}, ofSlowly(sample.Mixed(2, 40, 6))}
}

// P2: results of Make share no memory with arguments or with each other, nor do their rows, not even
// behind their ends, and so they do not change when the argument does later.
func TestMadeIsNew(t *testing.T) {
	for _, given := range several() {
		n, intactN := roomyNfa(given)
		first, err := nfa.Make(n)
		want := sample.CloneDfa(first)
		intact := sample.SpoilDfa(first, -100)
		again, wrong := nfa.Make(n)
		if !sample.EqualDfas(again, want) || err != nil || wrong != nil {
			t.Errorf("Make(%v) = %v, %v, and then %v, %v", given, want, err, again, wrong)
		}
		intactAgain := sample.SpoilDfa(again, -201)
		left := intactN()
		spoilNfa(n, -302)
		if !intact() || !intactAgain() || !left {
			t.Errorf("Make of %v shares memory", given)
		}
	}
}

// checkNew demands that a function without an error returns the same each time, in memory that
// is shared neither with other results nor with the argument, which spoil writes over.
func checkNew(t *testing.T, name string, make func() (api.Nfa, error), left func() bool, spoil func()) {
	t.Helper()
	first, err := make()
	want := cloneNfa(first)
	intact := spoilNfa(first, -100)
	again, wrong := make()
	if !equalNfas(again, want) || err != nil || wrong != nil {
		t.Errorf("%s is %v, %v, and then %v, %v", name, want, err, again, wrong)
	}
	intactAgain := spoilNfa(again, -201)
	isLeft := left()
	spoil()
	if !intact() || !intactAgain() || !isLeft {
		t.Errorf("%s of %v shares memory", name, want)
	}
}

// P2: results of Mirror and Of share no memory with arguments or with each other, not even behind
// their ends, and so they do not change when the argument does later.
func TestResultsAreNew(t *testing.T) {
	for _, given := range append(several(), crowded()) {
		n, intact := roomyNfa(given)
		checkNew(t, "Mirror", func() (api.Nfa, error) { return nfa.Mirror(n) }, intact, func() { spoilNfa(n, -302) })
	}
	for _, given := range []api.Dfa{sample.Ring(0, 1), sample.Ring(2, 3), sample.Mixed(1, 7, 3), sample.Mixed(2, 40, 6)} {
		d, intact := sample.RoomyDfa(given)
		checkNew(t, "Of", func() (api.Nfa, error) { return nfa.Of(d) }, intact, func() { sample.SpoilDfa(d, -302) })
	}
}

// errorsOf returns the errors of all functions of an automaton.
func errorsOf(n api.Nfa) []error {
	_, accepts := nfa.Accepts(n, nil)
	_, made := nfa.Make(n)
	_, mirror := nfa.Mirror(n)
	return []error{nfa.Check(n), accepts, made, mirror}
}

// P3: each error is, or wraps, the Errno that it stands for, and no other one.
func TestErrorsAreErrnos(t *testing.T) {
	for _, c := range nfaChecks() {
		if c.want == api.OK {
			continue
		}
		for i, err := range errorsOf(c.nfa) {
			if !sample.OnlyErrno(err, c.want) {
				t.Errorf("%s: error %d is %v, not %v alone", c.name, i, err, c.want)
			}
		}
	}
	for _, c := range sample.DfaChecks() {
		if _, err := nfa.Of(c.Dfa); c.Want != api.OK && !sample.OnlyErrno(err, c.Want) {
			t.Errorf("%s: Of = %v, not %v alone", c.Name, err, c.Want)
		}
	}
	if _, err := nfa.Accepts(blocks(), []int{2}); !sample.OnlyErrno(err, api.ErrRange) {
		t.Errorf("Accepts = %v, not ErrRange alone", err)
	}
	if _, err := nfa.Accepts(blocks(), sample.Repeated(81, 0)); !sample.OnlyErrno(err, api.ErrFull) {
		t.Errorf("Accepts = %v, not ErrFull alone", err)
	}
	if _, err := nfa.Make(back(6)); !sample.OnlyErrno(err, api.ErrFull) {
		t.Errorf("Make = %v, not ErrFull alone", err)
	}
}

// P5: long arguments are no obstacle.
func TestLong(t *testing.T) {
	for _, c := range longNfas() {
		for i, err := range errorsOf(c.nfa) {
			if !sample.OnlyErrno(err, c.want) {
				t.Errorf("%s: error %d is %v, want %v", c.name, i, err, c.want)
			}
		}
	}
	for _, c := range sample.LongDfas() {
		if _, err := nfa.Of(c.Dfa); !sample.OnlyErrno(err, c.Want) {
			t.Errorf("%s: Of = %v, want %v", c.Name, err, c.Want)
		}
	}
	if _, err := nfa.Accepts(blocks(), make([]int, 1<<24)); !sample.OnlyErrno(err, api.ErrFull) {
		t.Errorf("Accepts of a long word = %v", err)
	}
}
