package reach_test

import (
	"math"
	"slices"
	"testing"

	"stileward/api"
	"stileward/reach"
	"stileward/sample"
)

// P1: whatever the arguments, all functions return normally and do what the words say.
func FuzzReach(f *testing.F) {
	f.Add(1, 0, "\x00", "\x01", 0)
	f.Add(2, 2, "\x02\x02\x01\x01\x04\x03\x03\x03\x03\x05\x02\x05", "\x00\x01\x00\x00\x00\x01", 5)
	f.Add(3, 0, "\x03\x02\x04\x01\x01\x01\x04\x01\x02\x04\x03\x01\x00\x04\x01", "\x00\x00\x00\x00\x01", 20)
	f.Add(6, 1, "\x00\x01\x00\x01\x00\x01\x01\x01\x01\x00\x00\x00", "\x01\x00", 21)
	f.Add(0, 0, "", "", 0)
	f.Add(-1, -1, "\xff", "\x00", math.MinInt)
	f.Add(7, math.MaxInt, "\x00\x00\x00\x00\x00\x00\x00", "\x01", math.MaxInt)
	f.Fuzz(func(t *testing.T, letters, start int, rows, finals string, n int) {
		d := sample.Dfa(letters, start, rows, finals)
		check(t, d, n, slowly(d, n))
	})
}

// P2, P4: all functions leave their argument and what is behind it as it is, and read nothing there.
func TestArgumentsAreLeft(t *testing.T) {
	for _, c := range sample.DfaChecks() {
		d, intact := sample.RoomyDfa(c.Dfa)
		check(t, d, 3, slowly(c.Dfa, 3))
		if !intact() {
			t.Errorf("%s: the argument, or memory behind it, is changed", c.Name)
		}
	}
}

// P2: the rows of an automaton may be one.
func TestSharedRows(t *testing.T) {
	row := []int{1, 0}
	d := api.Dfa{Letters: 2, Next: [][]int{row, row, row}, Final: []bool{true, false, false}}
	check(t, d, 3, slowly(sample.CloneDfa(d), 3))
	if !slices.Equal(row, []int{1, 0}) {
		t.Errorf("the row became %v", row)
	}
}

// listers are the functions that return lists.
var listers = []struct {
	name string
	list func(d api.Dfa) ([]int, error)
}{
	{"Reached", reach.Reached},
	{"Alive", reach.Alive},
	{"First", reach.First},
}

// several are automata for which no function has an error.
func several() []api.Dfa {
	twice := crossing()
	twice.Next[3] = twice.Next[4]
	return []api.Dfa{sample.Ring(0, 1), sample.Ring(2, 3), islands(), crossing(), rivals(), twice, sample.Mixed(2, 20, 2)}
}

// P2: lists share no memory with arguments or with each other, not even behind their ends.
func TestListsAreNew(t *testing.T) {
	for _, given := range several() {
		for _, l := range listers {
			d, intact := sample.RoomyDfa(given)
			first, err := l.list(d)
			want := slices.Clone(first)
			sample.Fill(first, -1)
			again, wrong := l.list(d)
			if !slices.Equal(again, want) || err != nil || wrong != nil {
				t.Errorf("%s of %v is first %v, %v and then %v, %v", l.name, given, want, err, again, wrong)
			}
			sample.Fill(again, -2)
			if slices.Contains(first[:cap(first)], -2) || !intact() {
				t.Errorf("%s of %v shares memory", l.name, given)
			}
		}
	}
}

// P2: results of Trim share no memory with arguments or with each other, nor do their rows, not even
// behind their ends, and so they do not change when the argument does later.
func TestTrimmedIsNew(t *testing.T) {
	for _, given := range several() {
		if !sample.MakesNew(given, reach.Trim) {
			t.Errorf("Trim of %v shares memory", given)
		}
	}
}

// P2: a list that was returned does not change when the argument does later.
func TestNothingIsKept(t *testing.T) {
	for _, d := range several() {
		var lists, wants [][]int
		for _, l := range listers {
			list, _ := l.list(d)
			lists, wants = append(lists, list), append(wants, slices.Clone(list))
		}
		sample.SpoilDfa(d, -100)
		if !slices.EqualFunc(lists, wants, slices.Equal) {
			t.Errorf("the lists became %v, want %v", lists, wants)
		}
	}
}

// errorsOf returns the errors of all functions for an automaton.
func errorsOf(d api.Dfa) []error {
	_, trim := reach.Trim(d)
	_, count := reach.Count(d, 0)
	errs := []error{trim, count}
	for _, l := range listers {
		_, err := l.list(d)
		errs = append(errs, err)
	}
	return errs
}

// P3: each error is, or wraps, the Errno that it stands for, and no other one.
func TestErrorsAreErrnos(t *testing.T) {
	for _, c := range sample.DfaChecks() {
		if c.Want == api.OK {
			continue
		}
		for i, err := range errorsOf(c.Dfa) {
			if !sample.OnlyErrno(err, c.Want) {
				t.Errorf("%s: error %d is %v, not %v alone", c.Name, i, err, c.Want)
			}
		}
	}
	if _, err := reach.First(sample.NoneFinal(crossing())); !sample.OnlyErrno(err, api.ErrNone) {
		t.Errorf("First = %v, not ErrNone alone", err)
	}
	if _, err := reach.Count(crossing(), 21); !sample.OnlyErrno(err, api.ErrRange) {
		t.Errorf("Count = %v, not ErrRange alone", err)
	}
}

// P5: long arguments are no obstacle.
func TestLong(t *testing.T) {
	for _, c := range sample.LongDfas() {
		for i, err := range errorsOf(c.Dfa) {
			if !sample.OnlyErrno(err, c.Want) {
				t.Errorf("%s: error %d is %v, want %v", c.Name, i, err, c.Want)
			}
		}
	}
}
