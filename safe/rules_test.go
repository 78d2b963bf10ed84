package safe_test

import (
	"math"
	"slices"
	"testing"

	"stileward/api"
	"stileward/safe"
	"stileward/sample"
)

// P1: whatever the arguments, all functions return normally and do what the words say.
func FuzzSafe(f *testing.F) {
	f.Add(1, 0, "\x00", "\x01")
	f.Add(2, 3, "\x04\x02\x03\x05\x04\x04\x00\x04\x04\x04\x04\x00", "\x00\x00\x01\x00\x00\x01")
	f.Add(3, 0, "\x00\x01\x02\x00\x00\x02\x02\x02\x02", "\x01\x01\x00")
	f.Add(6, 1, "\x00\x01\x00\x01\x00\x01\x01\x01\x01\x00\x00\x00", "\x01\x00")
	f.Add(0, 0, "", "")
	f.Add(-1, -1, "\xff", "\x00")
	f.Add(7, math.MaxInt, "\x00\x00\x00\x00\x00\x00\x00", "\x01")
	f.Fuzz(func(t *testing.T, letters, start int, rows, finals string) {
		check(t, sample.Dfa(letters, start, rows, finals))
	})
}

// P2, P4: all functions leave their argument and what is behind it as it is, and read nothing there.
func TestArgumentsAreLeft(t *testing.T) {
	for _, c := range sample.DfaChecks() {
		d, intact := sample.RoomyDfa(c.Dfa)
		check(t, d)
		if !intact() {
			t.Errorf("%s: the argument, or memory behind it, is changed", c.Name)
		}
	}
}

// P2: the rows of an automaton may be one.
func TestSharedRows(t *testing.T) {
	row := []int{1, 2}
	d := api.Dfa{Letters: 2, Next: [][]int{row, row, row}, Final: []bool{true, false, true}}
	check(t, d)
	if !slices.Equal(row, []int{1, 2}) {
		t.Errorf("the row became %v", row)
	}
}

// P2: results share no memory with arguments or with each other, nor do their rows, not even behind
// their ends, and so they do not change when the argument does later.
func TestResultsAreNew(t *testing.T) {
	twice := onlyEnd()
	twice.Next[2] = twice.Next[4]
	for _, d := range []api.Dfa{sample.Ring(0, 1), sample.Ring(2, 3), onlyEnd(), twice, sample.Mixed(2, 40, 6)} {
		for _, m := range makers {
			if !sample.MakesNew(d, m.make) {
				t.Errorf("%s of %v shares memory", m.name, d)
			}
		}
	}
}

// errorsOf returns the errors of all functions for an automaton.
func errorsOf(d api.Dfa) []error {
	_, class := safe.Class(d)
	errs := []error{class}
	for _, m := range makers {
		_, err := m.make(d)
		errs = append(errs, err)
	}
	return errs
}

// checkErrors demands that each error is, or wraps, the Errno that it stands for, and no other one.
func checkErrors(t *testing.T, c sample.DfaCheck) {
	t.Helper()
	for i, err := range errorsOf(c.Dfa) {
		if !sample.OnlyErrno(err, c.Want) {
			t.Errorf("%s: error %d is %v, not %v alone", c.Name, i, err, c.Want)
		}
	}
}

// P3: each error is an Errno.
func TestErrorsAreErrnos(t *testing.T) {
	for _, c := range sample.DfaChecks() {
		if c.Want != api.OK {
			checkErrors(t, c)
		}
	}
}

// P5: long arguments are no obstacle.
func TestLong(t *testing.T) {
	for _, c := range sample.LongDfas() {
		checkErrors(t, c)
	}
}
