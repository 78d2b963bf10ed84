package verdict_test

import (
	"math"
	"slices"
	"testing"

	"stileward/api"
	"stileward/sample"
	"stileward/verdict"
)

// P1: whatever the arguments, all functions return normally and do what the words say.
func FuzzVerdict(f *testing.F) {
	f.Add(1, 0, "\x00", "\x01", "")
	f.Add(2, 0, "\x01\x03\x02\x01\x01\x02\x03\x03", "\x00\x01\x00\x01", "\x00\x01")
	f.Add(3, 2, "\x03\x05\x04\x01\x01\x01\x00\x00\x03\x03\x02\x05\x04\x04\x04\x05\x05\x05", "\x01\x01\x00\x01\x01\x00", "\x02\x01")
	f.Add(6, 1, "\x00\x01\x00\x01\x00\x01\x01\x01\x01\x00\x00\x00", "\x01\x00", "\x05")
	f.Add(0, 0, "", "", "")
	f.Add(-1, -1, "\xff", "\x00", "\xff")
	f.Add(2, 0, "\x00\x01\x01\x00", "\x01\x00", "\x00\x02")
	f.Add(7, math.MaxInt, "\x00\x00\x00\x00\x00\x00\x00", "\x01", "\x06")
	f.Fuzz(func(t *testing.T, letters, start int, rows, finals, text string) {
		d, w := sample.Dfa(letters, start, rows, finals), sample.Word(text)
		check(t, d, w, slowly(d, w))
	})
}

// P2, P4: all functions leave their arguments and what is behind them as they are, and read nothing there.
func TestArgumentsAreLeft(t *testing.T) {
	words := sample.Checks()
	for i, c := range sample.DfaChecks() {
		for _, given := range [][]int{words[i%len(words)].Word, {0}, nil} {
			d, intactD := sample.RoomyDfa(c.Dfa)
			w, intactW := sample.Roomy(given)
			check(t, d, w, slowly(c.Dfa, given))
			if !intactD() || !intactW() {
				t.Errorf("%s: an argument, or memory behind it, is changed", c.Name)
			}
		}
	}
}

// P2: the rows of an automaton may be one, and the word may be a row.
func TestSharedRows(t *testing.T) {
	row := []int{1, 1}
	d := api.Dfa{Letters: 2, Next: [][]int{row, row, row}, Final: []bool{true, false, true}}
	check(t, d, row, answers{verdict: api.Never, watch: true})
	d.Start = 2
	check(t, d, nil, answers{verdict: api.Now, soonest: []int{0}, watch: true})
	if !slices.Equal(row, []int{1, 1}) {
		t.Errorf("the row became %v", row)
	}
}

// P2: words share no memory with arguments or with each other, not even behind their ends,
// and so they do not change when the arguments do later.
func TestWordsAreNew(t *testing.T) {
	twice := crossroads()
	twice.Next[1] = twice.Next[4]
	for _, given := range []api.Dfa{sample.Ring(0, 1), sample.Ring(5, 1), crossroads(), twice, trap(), waiting()} {
		d, intact := sample.RoomyDfa(given)
		w, intactWord := sample.Roomy([]int{0})
		first, err := verdict.Soonest(d, w)
		want := slices.Clone(first)
		sample.Fill(first, -1)
		again, wrong := verdict.Soonest(d, w)
		if !slices.Equal(again, want) || (err == nil) != (wrong == nil) {
			t.Errorf("Soonest(%v, %v) is first %v, %v and then %v, %v", given, w, want, err, again, wrong)
		}
		sample.Fill(again, -2)
		if slices.Contains(first[:cap(first)], -2) || !intact() || !intactWord() {
			t.Errorf("Soonest(%v, %v) shares memory", given, w)
		}
		kept, _ := verdict.Soonest(d, w)
		sample.SpoilDfa(d, -100)
		sample.Fill(w, -3)
		if !slices.Equal(kept, want) {
			t.Errorf("the word became %v, want %v", kept, want)
		}
	}
}

// P2: results depend on no earlier call, be it a good or a bad one.
func TestRepeats(t *testing.T) {
	for range 3 {
		for _, c := range sample.DfaChecks() {
			check(t, c.Dfa, []int{0}, slowly(c.Dfa, []int{0}))
			check(t, crossroads(), []int{2}, answers{verdict: api.Now, soonest: []int{2}, watch: true})
		}
	}
}

// errorsOf returns the errors of all functions, that of Watch last.
func errorsOf(d api.Dfa, w []int) []error {
	_, of := verdict.Of(d, w)
	_, soonest := verdict.Soonest(d, w)
	_, watch := verdict.Watch(d)
	return []error{of, soonest, watch}
}

// checkErrors demands that each of some errors is, or wraps, an Errno, and no other one.
func checkErrors(t *testing.T, name string, errs []error, want api.Errno) {
	t.Helper()
	for i, err := range errs {
		if !sample.OnlyErrno(err, want) {
			t.Errorf("%s: error %d is %v, not %v alone", name, i, err, want)
		}
	}
}

// P3: each error is an Errno.
func TestErrorsAreErrnos(t *testing.T) {
	for _, c := range sample.DfaChecks() {
		if c.Want != api.OK {
			checkErrors(t, c.Name, errorsOf(c.Dfa, nil), c.Want)
		}
	}
	checkErrors(t, "a long word", errorsOf(trap(), sample.Repeated(81, 0))[:2], api.ErrFull)
	checkErrors(t, "a bad word", errorsOf(trap(), []int{0, 2})[:2], api.ErrRange)
	checkErrors(t, "nothing settled", errorsOf(trap(), []int{0})[1:2], api.ErrNone)
}

// P5: long arguments are no obstacle.
func TestLong(t *testing.T) {
	for _, c := range sample.LongDfas() {
		checkErrors(t, c.Name, errorsOf(c.Dfa, nil), c.Want)
	}
	checkErrors(t, "long word", errorsOf(trap(), make([]int, 1<<24))[:2], api.ErrFull)
}
