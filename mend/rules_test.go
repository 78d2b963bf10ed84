package mend_test

import (
	"math"
	"slices"
	"testing"

	"stileward/api"
	"stileward/mend"
	"stileward/sample"
)

// P1: whatever the arguments, both functions return normally and do what the words say.
func FuzzMend(f *testing.F) {
	f.Add(1, 0, "\x00", "\x01", "")
	f.Add(2, 0, "\x01\x02\x00\x03\x03\x00\x03\x03", "\x01\x00\x00\x00", "\x00\x01\x00\x01")
	f.Add(3, 1, "\x00\x01\x00\x00\x01\x01", "\x00\x01", "\x01\x00\x00\x02\x00")
	f.Add(6, 1, "\x00\x01\x00\x01\x00\x01\x01\x01\x01\x00\x00\x00", "\x01\x00", "\x05")
	f.Add(0, 0, "", "", "")
	f.Add(-1, -1, "\xff", "\x00", "\xff")
	f.Add(2, 0, "\x00\x01\x01\x00", "\x00\x00", "\x00\x01")
	f.Add(7, math.MaxInt, "\x00\x00\x00\x00\x00\x00\x00", "\x01", "\x06")
	f.Fuzz(func(t *testing.T, letters, start int, rows, finals, text string) {
		d, w := sample.Dfa(letters, start, rows, finals), sample.Word(text)
		check(t, d, w, slowly(d, w))
	})
}

// P2, P4: both functions leave their arguments and what is behind them as they are, and read nothing there.
func TestArgumentsAreLeft(t *testing.T) {
	words := sample.Checks()
	for i, c := range sample.DfaChecks() {
		for _, given := range [][]int{words[i%len(words)].Word, {0}, nil} {
			d, intactD := sample.RoomyDfa(c.Dfa)
			w, intactW := sample.Roomy(given)
			check(t, d, w, slowly(c.Dfa, given))
			if !intactD() || !intactW() {
				t.Errorf("%s: an argument, or memory behind it, is changed", c.Name)
			}
		}
	}
}

// P2: the rows of an automaton may be one, and the word may be a row.
func TestSharedRows(t *testing.T) {
	row := []int{0, 1}
	d := api.Dfa{Letters: 2, Next: [][]int{row, row}, Final: []bool{true, false}}
	check(t, d, row, answers{cost: 1, mended: []int{0}})
	d.Start = 1
	check(t, d, row[1:], answers{cost: 1, mended: []int{0}})
	if !slices.Equal(row, []int{0, 1}) {
		t.Errorf("the row became %v", row)
	}
}

// P2: words share no memory with arguments or with each other, not even behind their ends,
// and so they do not change when the arguments do later.
func TestWordsAreNew(t *testing.T) {
	for _, given := range []api.Dfa{noZeros(), closed(), among("", "012", "1012"), among("01201201201201201"), sample.Mixed(2, 20, 3)} {
		for _, letters := range [][]int{nil, {}, {0}, {0, 1, 2}, {0, 0, 1, 0, 2, 0, 0}} {
			d, intact := sample.RoomyDfa(given)
			w, intactWord := sample.Roomy(letters)
			first, _, err := mend.Mend(d, w)
			want := slices.Clone(first)
			sample.Fill(first, -1)
			again, _, wrong := mend.Mend(d, w)
			if !slices.Equal(again, want) || err != nil || wrong != nil {
				t.Errorf("Mend(%v, %v) is first %v, %v and then %v, %v", given, w, want, err, again, wrong)
			}
			sample.Fill(again, -2)
			if slices.Contains(first[:cap(first)], -2) || !intact() || !intactWord() {
				t.Errorf("Mend(%v, %v) shares memory", given, w)
			}
			kept, _, _ := mend.Mend(d, w)
			sample.SpoilDfa(d, -100)
			sample.Fill(w, -3)
			if !slices.Equal(kept, want) {
				t.Errorf("the word became %v, want %v", kept, want)
			}
		}
	}
}

// P2: results depend on no earlier call, be it a good or a bad one.
func TestRepeats(t *testing.T) {
	for range 3 {
		for _, c := range sample.DfaChecks() {
			check(t, c.Dfa, []int{0}, slowly(c.Dfa, []int{0}))
			check(t, noZeros(), []int{0, 0, 0}, answers{cost: 1, mended: []int{0, 1, 0}})
		}
	}
}

// haveOnly tells whether the errors of both functions are, or wrap, one Errno and no other one.
func haveOnly(want api.Errno, d api.Dfa, w []int) bool {
	_, cost := mend.Cost(d, w)
	_, _, mended := mend.Mend(d, w)
	return sample.OnlyErrno(cost, want) && sample.OnlyErrno(mended, want)
}

// P3: each error is an Errno.
func TestErrorsAreErrnos(t *testing.T) {
	for _, c := range sample.DfaChecks() {
		if c.Want != api.OK && !haveOnly(c.Want, c.Dfa, nil) {
			t.Errorf("%s: the errors are not %v alone", c.Name, c.Want)
		}
	}
	for _, c := range sample.Checks() {
		d := sample.Mixed(1, 7, max(1, min(c.Letters, 6)))
		if c.Want != api.OK && c.Letters == d.Letters && !haveOnly(c.Want, d, c.Word) {
			t.Errorf("%s: the errors are not %v alone", c.Name, c.Want)
		}
	}
	if !haveOnly(api.ErrNone, among(), []int{0}) {
		t.Error("without a word, the errors are not ErrNone alone")
	}
	// There are accepted words of 78 letters and of 81, which are nearer.
	threes := sample.WithFinals(sample.Ring(0, 3), "+--")
	if _, _, err := mend.Mend(threes, sample.Repeated(80, 0)); !sample.OnlyErrno(err, api.ErrFull) {
		t.Errorf("of 81 letters, the error is %v", err)
	}
}

// P5: long arguments are no obstacle.
func TestLong(t *testing.T) {
	for _, c := range sample.LongDfas() {
		if !haveOnly(c.Want, c.Dfa, nil) {
			t.Errorf("%s: the errors are not %v alone", c.Name, c.Want)
		}
	}
	if !haveOnly(api.ErrFull, noZeros(), make([]int, 1<<24)) {
		t.Error("of a long word, the errors are not ErrFull alone")
	}
}
