package small_test

import (
	"math"
	"slices"
	"testing"

	"stileward/api"
	"stileward/sample"
	"stileward/small"
)

// P1: whatever the arguments, all functions return normally and do what the words say.
func FuzzSmall(f *testing.F) {
	f.Add(1, 0, "\x00", "\x01", "\x01\x00", "\x01\x01", 0)
	f.Add(2, 3, "\x04\x00\x02\x01\x01\x02\x02\x00\x00\x00\x03\x01", "\x00\x01\x01\x00\x00\x01", "\x01\x02\x01\x01\x02\x02", "\x00\x01\x00", 0)
	f.Add(3, 0, "\x00\x01\x00\x01\x00\x01", "\x01\x00", "\x00\x01\x02\x03\x00\x01\x02\x03\x00\x01\x02\x03", "\x01\x00\x00\x00", 0)
	f.Add(6, 1, "\x00\x01\x00\x01\x00\x01\x01\x01\x01\x00\x00\x00", "\x01\x00", "\x00\x00\x00\x00\x00\x00", "\x01", 0)
	f.Add(0, 0, "", "", "", "", 0)
	f.Add(-1, -1, "\xff", "\x00", "\xff", "\x00", math.MinInt)
	f.Add(7, math.MaxInt, "\x00\x00\x00\x00\x00\x00\x00", "\x01", "\x00", "\x00", 1)
	f.Fuzz(func(t *testing.T, letters, start int, rows, finals, otherRows, otherFinals string, otherStart int) {
		a, b := sample.Dfa(letters, start, rows, finals), sample.Dfa(letters, otherStart, otherRows, otherFinals)
		checkAll(t, a, b)
		b.Letters++
		checkAll(t, a, b)
	})
}

// checkAll demands of both functions what the words say.
func checkAll(t *testing.T, a, b api.Dfa) {
	t.Helper()
	checkMinimal(t, a)
	checkMinimal(t, b)
	checkSame(t, a, b)
	checkSame(t, b, a)
}

// P2, P4: both functions leave their arguments and what is behind them as they are, and read nothing there.
func TestArgumentsAreLeft(t *testing.T) {
	for i, c := range sample.DfaChecks() {
		other := sample.Mixed(uint64(i), 1+i%5, max(1, min(c.Dfa.Letters, 6)))
		a, intactA := sample.RoomyDfa(c.Dfa)
		b, intactB := sample.RoomyDfa(other)
		checkAll(t, a, b)
		checkAll(t, a, a)
		if !intactA() || !intactB() {
			t.Errorf("%s: an argument, or memory behind it, is changed", c.Name)
		}
	}
}

// P2: an automaton may be both arguments, and its rows may be one.
func TestSharedArguments(t *testing.T) {
	row := []int{1, 0}
	d := api.Dfa{Letters: 2, Next: [][]int{row, row, row}, Final: []bool{true, false, true}}
	checkAll(t, d, d)
	other := d
	other.Final = []bool{true, true, false}
	checkAll(t, d, other)
	if !slices.Equal(row, []int{1, 0}) {
		t.Errorf("the row became %v", row)
	}
}

// P2: results of Minimal share no memory with arguments or with each other, nor do their rows, not even
// behind their ends, and so they do not change when the argument does later.
func TestMinimalIsNew(t *testing.T) {
	twice := ways()
	twice.Next[1] = twice.Next[3]
	for _, d := range []api.Dfa{sample.Ring(0, 1), begins(), ways(), rest(2, 6, 3), twice, sample.Mixed(2, 40, 6)} {
		if !sample.MakesNew(d, small.Minimal) {
			t.Errorf("Minimal of %v shares memory", d)
		}
	}
}

// P2: words share no memory with each other, not even behind their ends, and do not
// change when the arguments do later.
func TestWordsAreNew(t *testing.T) {
	for _, pair := range [][2]api.Dfa{
		{ways(), sample.NoneFinal(ways())},
		{rest(2, 6, 6), rest(2, 3, 3)},
		{sample.Ring(0, 40), sample.NoneFinal(sample.Ring(0, 1))},
	} {
		same := func(a, b api.Dfa) ([]int, error) {
			_, w, err := small.Same(a, b)
			return w, err
		}
		if !sample.WordsAreNew(pair[0], pair[1], same) {
			t.Errorf("words of Same(%v, %v) share memory", pair[0], pair[1])
		}
	}
}

// errorsOf returns the errors of both functions for an automaton.
func errorsOf(d api.Dfa) []error {
	_, minimal := small.Minimal(d)
	_, _, first := small.Same(d, ways())
	_, _, second := small.Same(ways(), d)
	_, _, both := small.Same(d, d)
	return []error{minimal, first, second, both}
}

// P3: each error is, or wraps, the Errno that it stands for, and no other one.
func TestErrorsAreErrnos(t *testing.T) {
	for _, c := range sample.DfaChecks() {
		if c.Want == api.OK {
			continue
		}
		for i, err := range errorsOf(c.Dfa) {
			if !sample.OnlyErrno(err, c.Want) {
				t.Errorf("%s: error %d is %v, not %v alone", c.Name, i, err, c.Want)
			}
		}
	}
	if _, _, err := small.Same(ways(), sample.Ring(0, 1)); !sample.OnlyErrno(err, api.ErrShape) {
		t.Errorf("Same = %v, not ErrShape alone", err)
	}
}

// P5: long arguments are no obstacle.
func TestLong(t *testing.T) {
	for _, c := range sample.LongDfas() {
		for i, err := range errorsOf(c.Dfa) {
			if !sample.OnlyErrno(err, c.Want) {
				t.Errorf("%s: error %d is %v, want %v", c.Name, i, err, c.Want)
			}
		}
	}
}
