package dfa_test

import (
	"math"
	"slices"
	"testing"

	"stileward/api"
	"stileward/dfa"
	"stileward/plain"
	"stileward/sample"
)

// P1: whatever the arguments, all functions return normally and do what the words say.
func FuzzDfa(f *testing.F) {
	f.Add(1, 0, "\x00", "\x01", 0, "", "\x01\x02\x00", "\x00\x00\x01", 0)
	f.Add(2, 1, "\x00\x01\x01\x00", "\x00\x01", 0, "\x00\x01\x01", "\x00\x02\x01\x01\x00\x03\x00\x03", "\x00\x01\x01\x00", 3)
	f.Add(6, 0, "\x00\x01\x00\x01\x00\x01\x01\x01\x01\x00\x00\x00", "\x01\x00", 1, "\x05\x04", "\x00\x00\x00\x00\x00\x00", "\x01", 0)
	f.Add(0, 0, "", "", 0, "", "", "", 0)
	f.Add(-1, -1, "\xff", "\x00", -1, "\xff", "\x00", "\x00", math.MinInt)
	f.Add(7, math.MaxInt, "\x00\x00\x00\x00\x00\x00\x00", "\x01", math.MaxInt, "\x06", "\x00", "\x00", 1)
	f.Fuzz(func(t *testing.T, letters, start int, rows, finals string, from int, text, otherRows, otherFinals string, otherStart int) {
		a, b := sample.Dfa(letters, start, rows, finals), sample.Dfa(letters, otherStart, otherRows, otherFinals)
		w := sample.Word(text)
		checkAll(t, a, b, from, w)
		checkAll(t, b, a, from, w)
		b.Letters++
		checkAll(t, a, b, from, w)
	})
}

// checkAll demands of all functions what the words say.
func checkAll(t *testing.T, a, b api.Dfa, from int, w []int) {
	t.Helper()
	wrong := wrongOf(a)
	if err := dfa.Check(a); plain.Told(err) != wrong {
		t.Errorf("Check(%v) = %v, want %v", a, err, wrong)
	}
	var not api.Dfa
	if wrong == api.OK {
		not = notSlowly(a)
	}
	if got, err := dfa.Not(a); !sample.EqualDfas(got, not) || plain.Told(err) != wrong {
		t.Errorf("Not(%v) = %v, %v, want %v, %v", a, got, err, not, wrong)
	}
	state, wrong := 0, runWrongOf(a, from, w)
	if wrong == api.OK {
		state = runSlowly(a, from, w)
	}
	if got, err := dfa.Run(a, from, w); got != state || plain.Told(err) != wrong {
		t.Errorf("Run(%v, %d, %v) = %d, %v, want %d, %v", a, from, w, got, err, state, wrong)
	}
	is, wrong := false, acceptsWrongOf(a, w)
	if wrong == api.OK {
		is = a.Final[runSlowly(a, a.Start, w)]
	}
	if got, err := dfa.Accepts(a, w); got != is || plain.Told(err) != wrong {
		t.Errorf("Accepts(%v, %v) = %v, %v, want %v, %v", a, w, got, err, is, wrong)
	}
	if err := dfa.CheckBoth(a, b); plain.Told(err) != wrongOfBoth(a, b) {
		t.Errorf("CheckBoth(%v, %v) = %v, want %v", a, b, err, wrongOfBoth(a, b))
	}
	checkProducts(t, a, b)
}

// P2, P4: all functions leave their arguments and what is behind them as they are, and read nothing there.
func TestArgumentsAreLeft(t *testing.T) {
	words := sample.Checks()
	for i, c := range sample.DfaChecks() {
		other := sample.Mixed(uint64(i), 1+i%5, max(1, min(c.Dfa.Letters, 6)))
		a, intactA := sample.RoomyDfa(c.Dfa)
		b, intactB := sample.RoomyDfa(other)
		w, intactW := sample.Roomy(words[i%len(words)].Word)
		checkAll(t, a, b, 0, w)
		checkAll(t, b, a, 0, w)
		checkAll(t, a, a, 0, w)
		checkAll(t, a, b, 0, nil)
		if !intactA() || !intactB() || !intactW() {
			t.Errorf("%s: an argument, or memory behind it, is changed", c.Name)
		}
	}
}

// makers are the functions that return automata, each of them with two arguments.
var makers = append(slices.Clone(products), product{
	name: "Not",
	make: func(a, b api.Dfa) (api.Dfa, error) { return dfa.Not(a) },
}, product{
	name: "Copy",
	make: func(a, b api.Dfa) (api.Dfa, error) { return dfa.Copy(a) },
})

// P2: results share no memory with arguments or with each other, nor do their rows, not even behind
// their ends, and so they do not change when the arguments do later.
func TestResultsAreNew(t *testing.T) {
	twice := even()
	twice.Next[1] = twice.Next[0]
	for _, given := range []api.Dfa{even(), ends(), twice, sample.Mixed(1, 1, 2), sample.Mixed(2, 20, 2)} {
		for _, m := range makers {
			other, intact := sample.RoomyDfa(even())
			first := func(d api.Dfa) (api.Dfa, error) { return m.make(d, other) }
			second := func(d api.Dfa) (api.Dfa, error) { return m.make(other, d) }
			if !sample.MakesNew(given, first) || !sample.MakesNew(given, second) || !intact() {
				t.Errorf("%s of %v shares memory", m.name, given)
			}
		}
	}
}

// P2: an automaton may be both arguments, and its rows may be one.
func TestSharedArguments(t *testing.T) {
	row := []int{1, 0}
	d := api.Dfa{Letters: 2, Next: [][]int{row, row}, Final: []bool{true, false}}
	want := api.Dfa{Letters: 2, Next: [][]int{{1, 0}, {1, 0}}, Final: []bool{true, false}}
	checkAll(t, d, d, 1, row)
	if !sample.EqualDfas(d, want) {
		t.Errorf("the automaton became %v", d)
	}
}

// P3: each error is, or wraps, the Errno that it stands for, and no other one.
func TestErrorsAreErrnos(t *testing.T) {
	for _, c := range sample.DfaChecks() {
		if c.Want == api.OK {
			continue
		}
		_, run := dfa.Run(c.Dfa, 0, nil)
		_, accepts := dfa.Accepts(c.Dfa, nil)
		errs := []error{dfa.Check(c.Dfa), run, accepts}
		for _, m := range makers {
			_, err := m.make(c.Dfa, c.Dfa)
			errs = append(errs, err)
		}
		for _, p := range products {
			_, err := p.make(even(), c.Dfa)
			errs = append(errs, err)
		}
		errs = append(errs, dfa.CheckBoth(c.Dfa, even()), dfa.CheckBoth(even(), c.Dfa))
		for i, err := range errs {
			if !sample.OnlyErrno(err, c.Want) {
				t.Errorf("%s: error %d is %v, not %v alone", c.Name, i, err, c.Want)
			}
		}
	}
	_, run := dfa.Run(even(), 2, nil)
	_, letter := dfa.Run(even(), 0, []int{2})
	_, accepts := dfa.Accepts(even(), []int{2})
	for i, err := range []error{run, letter, accepts} {
		if !sample.OnlyErrno(err, api.ErrRange) {
			t.Errorf("error %d is %v, not ErrRange alone", i, err)
		}
	}
	for _, p := range products {
		if _, err := p.make(even(), sample.Ring(0, 1)); !sample.OnlyErrno(err, api.ErrShape) {
			t.Errorf("%s = %v, not ErrShape alone", p.name, err)
		}
		if _, err := p.make(sample.Ring(0, 6), sample.Ring(0, 7)); !sample.OnlyErrno(err, api.ErrFull) {
			t.Errorf("%s = %v, not ErrFull alone", p.name, err)
		}
	}
}

// P5: long arguments are no obstacle.
func TestLong(t *testing.T) {
	for _, c := range sample.LongDfas() {
		_, run := dfa.Run(c.Dfa, 0, nil)
		_, accepts := dfa.Accepts(c.Dfa, nil)
		errs := []error{dfa.Check(c.Dfa), run, accepts}
		for _, m := range makers {
			_, err := m.make(c.Dfa, c.Dfa)
			errs = append(errs, err)
		}
		for i, err := range errs {
			if !sample.OnlyErrno(err, c.Want) {
				t.Errorf("%s: error %d is %v, want %v", c.Name, i, err, c.Want)
			}
		}
	}
	w := make([]int, 1<<24)
	_, run := dfa.Run(even(), 0, w)
	_, accepts := dfa.Accepts(even(), w)
	if !sample.OnlyErrno(run, api.ErrFull) || !sample.OnlyErrno(accepts, api.ErrFull) {
		t.Errorf("Run = %v, Accepts = %v", run, accepts)
	}
}
