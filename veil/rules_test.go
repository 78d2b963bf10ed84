package veil_test

import (
	"math"
	"slices"
	"testing"

	"stileward/api"
	"stileward/sample"
	"stileward/veil"
)

// P1: whatever the arguments, all functions return normally and do what the words say.
func FuzzVeil(f *testing.F) {
	f.Add(1, 0, "\x00", "\x01", 0, "\x01\x01", "\x01\x00", 1)
	f.Add(2, 0, "\x01\x02\x03\x03\x03\x03\x03\x03", "\x01\x01\x01\x00", 0, "\x01\x02\x02\x02\x02\x02", "\x01\x01\x00", 2)
	f.Add(2, 3, "\x00\x02\x03\x01\x00\x01\x00\x00", "\x00\x01\x00\x00", 2, "\x00\x00\x01\x02\x02\x02\x02\x03", "\x01\x01\x01\x01", 1)
	f.Add(3, 0, "\x04\x04\x01\x02\x04\x00\x04\x01\x03\x04\x04\x02\x04\x04\x04", "\x01\x01\x01\x01\x00",
		0, "\x00\x00\x01\x01\x01\x00", "\x00\x01", 3)
	f.Add(6, 1, "\x00\x01\x00\x01\x00\x01\x01\x01\x01\x00\x00\x00", "\x01\x00", 0, "\x00\x00\x00\x00\x00\x00", "\x01", 42)
	f.Add(0, 0, "", "", 0, "", "", 0)
	f.Add(-1, -1, "\xff", "\x00", -1, "\xff", "\x00", math.MinInt)
	f.Add(7, math.MaxInt, "\x00\x00\x00\x00\x00\x00\x00", "\x01", 1, "\x00", "\x00", math.MaxInt)
	f.Fuzz(func(t *testing.T, letters, start int, rows, finals string, otherStart int, otherRows, otherFinals string, set int) {
		d, secret := sample.Dfa(letters, start, rows, finals), sample.Dfa(letters, otherStart, otherRows, otherFinals)
		check(t, d, secret, set, slowly(d, secret, set))
		check(t, secret, d, set, slowly(secret, d, set))
		check(t, d, d, set, slowly(d, d, set))
		secret.Letters++
		check(t, d, secret, set, slowly(d, secret, set))
	})
}

// P2, P4: all functions leave their arguments and what is behind them as they are, and read nothing there.
func TestArgumentsAreLeft(t *testing.T) {
	for i, c := range sample.DfaChecks() {
		other := sample.Mixed(uint64(i), 1+i%5, max(1, min(c.Dfa.Letters, 6)))
		for set := range 2 {
			checkLeft(t, c.Dfa, other, set)
			checkLeft(t, other, c.Dfa, set)
		}
	}
	for seed := range uint64(100) {
		d, secret, set := mixed(seed)
		checkLeft(t, d, secret, set)
	}
}

// checkLeft demands the right answers for two automata with memory behind all their ends, which
// are left as they are.
func checkLeft(t *testing.T, given, secret api.Dfa, set int) {
	t.Helper()
	want := slowly(given, secret, set)
	d, intactD := sample.RoomyDfa(given)
	other, intactOther := sample.RoomyDfa(secret)
	check(t, d, other, set, want)
	if !intactD() || !intactOther() {
		t.Errorf("of %v and %v, one or memory behind it is changed", given, secret)
	}
}

// P4: nil and empty lists are the same.
func TestEmptyLists(t *testing.T) {
	whole := sample.Ring(0, 1)
	for _, d := range []api.Dfa{
		{Letters: 1}, {Letters: 1, Next: [][]int{}, Final: []bool{}},
		{Letters: 1, Next: [][]int{nil}, Final: []bool{true}}, {Letters: 1, Next: [][]int{{}}, Final: []bool{true}},
	} {
		check(t, d, whole, 0, answers{noSee: api.ErrShape, noLift: api.ErrShape, noOpaque: api.ErrShape})
		checkOpaque(t, whole, d, 0, answers{noOpaque: api.ErrShape})
	}
}

// P2: an automaton may be both arguments, and its rows may be one.
func TestSharedArguments(t *testing.T) {
	row := []int{1, 2}
	d := api.Dfa{Letters: 2, Next: [][]int{row, row, row}, Final: []bool{true, true, false}}
	for set := range 4 {
		want := slowly(d, d, set)
		want.opaque, want.first = false, nil
		check(t, d, d, set, want)
		whole := every(d)
		check(t, whole, d, set, slowly(whole, d, set))
	}
	if !slices.Equal(row, []int{1, 2}) {
		t.Errorf("the row became %v", row)
	}
}

// P2: what See and Lift make shares no memory with arguments or with other results, nor do its
// rows, not even behind their ends, and so it does not change when the arguments do later.
func TestAutomataAreNew(t *testing.T) {
	for _, d := range []api.Dfa{sample.Ring(0, 1), sample.Ring(2, 3), house(true), rounds(2, 3)} {
		for set := range 1 << d.Letters {
			ofSee := func(d api.Dfa) (api.Dfa, error) { return veil.See(d, set) }
			ofLift := func(d api.Dfa) (api.Dfa, error) { return veil.Lift(d, set) }
			if !sample.MakesNew(d, ofSee) || !sample.MakesNew(d, ofLift) {
				t.Errorf("See or Lift of %v and %d shares memory", d, set)
			}
		}
	}
}

// told is an automaton and a secret, and what is seen.
type told struct {
	d, secret api.Dfa
	set       int
}

// tellings are such as tell a secret by some letters.
func tellings() []told {
	return []told{
		{house(true), sample.WithFinals(house(true), "---+-"), sample.SetOf("012")},
		{house(false), sample.WithFinals(house(false), "-++--"), sample.SetOf("01")},
		{sample.Among(3, "02", "0", "121"), sample.Among(3, "02", "121"), sample.SetOf("01")},
	}
}

// P2: words share no memory with each other, not even behind their ends, and do not change
// when the arguments do later.
func TestWordsAreNew(t *testing.T) {
	for _, c := range tellings() {
		opaque := func(d, secret api.Dfa) ([]int, error) {
			_, w, err := veil.Opaque(d, secret, c.set)
			return w, err
		}
		if !sample.WordsAreNew(c.d, c.secret, opaque) {
			t.Errorf("words of Opaque(%v, %v, %d) share memory", c.d, c.secret, c.set)
		}
	}
}

// P2: results depend on no earlier call, be it a good or a bad one.
func TestRepeats(t *testing.T) {
	for range 2 {
		for _, c := range sample.DfaChecks() {
			check(t, c.Dfa, house(true), 1, slowly(c.Dfa, house(true), 1))
			for _, p := range tellings() {
				check(t, p.d, p.secret, p.set, slowly(p.d, p.secret, p.set))
			}
		}
	}
}

// haveOnly tells whether the errors of all functions are, or wrap, one Errno and no other one.
func haveOnly(want api.Errno, d, secret api.Dfa, set int) bool {
	_, see := veil.See(d, set)
	_, lift := veil.Lift(d, set)
	return sample.OnlyErrno(see, want) && sample.OnlyErrno(lift, want) && opaqueHasOnly(want, d, secret, set)
}

// opaqueHasOnly tells whether the error of Opaque is, or wraps, one Errno and no other one.
func opaqueHasOnly(want api.Errno, d, secret api.Dfa, set int) bool {
	_, _, err := veil.Opaque(d, secret, set)
	return sample.OnlyErrno(err, want)
}

// P3: each error is an Errno.
func TestErrorsAreErrnos(t *testing.T) {
	for _, c := range sample.DfaChecks() {
		if c.Want != api.OK && !haveOnly(c.Want, c.Dfa, house(true), 0) {
			t.Errorf("%s: the errors are not %v alone", c.Name, c.Want)
		}
	}
	for _, c := range sample.DfaPairs() {
		if !opaqueHasOnly(c.Want, c.A, c.B, 0) {
			t.Errorf("%s: the error is not %v alone", c.Name, c.Want)
		}
	}
	if !haveOnly(api.ErrRange, house(true), house(true), 8) {
		t.Errorf("the errors for what is no set are not ErrRange alone")
	}
	if _, err := veil.See(rounds(3, 13), 1); !sample.OnlyErrno(err, api.ErrFull) {
		t.Errorf("the error for too many sets is %v", err)
	}
	if !opaqueHasOnly(api.ErrFull, rounds(3, 13), rounds(1, 1), 1) {
		t.Errorf("the error for too many sets of pairs is not ErrFull alone")
	}
	if !opaqueHasOnly(api.ErrFull, sample.Ring(0, 6), sample.Ring(0, 7), 0) {
		t.Errorf("the error for too many pairs is not ErrFull alone")
	}
}

// P5: long arguments are no obstacle.
func TestLong(t *testing.T) {
	for _, c := range sample.LongDfas() {
		if !haveOnly(c.Want, c.Dfa, house(true), 0) || !haveOnly(c.Want, c.Dfa, c.Dfa, 0) || !opaqueHasOnly(c.Want, house(true), c.Dfa, 0) {
			t.Errorf("%s: the errors are not %v alone", c.Name, c.Want)
		}
	}
}
