package super_test

import (
	"math"
	"slices"
	"testing"

	"stileward/api"
	"stileward/sample"
	"stileward/super"
)

// P1: whatever the arguments, both functions return normally and do what the words say.
func FuzzSuper(f *testing.F) {
	f.Add(1, 0, "\x00", "\x01", 0, "\x01\x01", "\x01\x00", 1)
	f.Add(2, 0, "\x01\x02\x03\x03\x03\x03\x03\x03", "\x01\x01\x01\x00", 0, "\x01\x02\x02\x02\x02\x02", "\x01\x01\x00", 2)
	f.Add(2, 3, "\x00\x02\x03\x01\x00\x01\x00\x00", "\x00\x01\x00\x00", 2, "\x00\x00\x01\x02\x02\x02\x02\x03", "\x01\x01\x01\x01", 1)
	f.Add(4, 0, "\x01\x04\x02\x04\x04\x00\x03\x04\x03\x04\x04\x00\x04\x02\x04\x01\x04\x04\x04\x04", "\x01\x00\x00\x00\x00",
		0, "\x00\x01\x02\x00\x01\x02\x00\x01\x02\x02\x02\x02", "\x01\x00\x00", 10)
	f.Add(6, 1, "\x00\x01\x00\x01\x00\x01\x01\x01\x01\x00\x00\x00", "\x01\x00", 0, "\x00\x00\x00\x00\x00\x00", "\x01", 64)
	f.Add(0, 0, "", "", 0, "", "", 0)
	f.Add(-1, -1, "\xff", "\x00", -1, "\xff", "\x00", math.MinInt)
	f.Add(7, math.MaxInt, "\x00\x00\x00\x00\x00\x00\x00", "\x01", 1, "\x00", "\x00", math.MaxInt)
	f.Fuzz(func(t *testing.T, letters, start int, rows, finals string, otherStart int, otherRows, otherFinals string, free int) {
		plant, d := sample.Dfa(letters, start, rows, finals), sample.Dfa(letters, otherStart, otherRows, otherFinals)
		check(t, plant, d, free, slowly(plant, d, free))
		check(t, d, plant, free, slowly(d, plant, free))
		check(t, plant, plant, free, slowly(plant, plant, free))
		d.Letters++
		check(t, plant, d, free, slowly(plant, d, free))
	})
}

// P2, P4: both functions leave their arguments and what is behind them as they are, and read nothing there.
func TestArgumentsAreLeft(t *testing.T) {
	for i, c := range sample.DfaChecks() {
		other := sample.Mixed(uint64(i), 1+i%5, max(1, min(c.Dfa.Letters, 6)))
		plant, intactPlant := sample.RoomyDfa(c.Dfa)
		d, intactD := sample.RoomyDfa(other)
		for _, free := range []int{0, 1} {
			check(t, plant, d, free, slowly(c.Dfa, other, free))
			check(t, d, plant, free, slowly(other, c.Dfa, free))
			check(t, plant, plant, free, slowly(c.Dfa, c.Dfa, free))
		}
		if !intactPlant() || !intactD() {
			t.Errorf("%s: an argument, or memory behind it, is changed", c.Name)
		}
	}
	for seed := range uint64(100) {
		given, other, free := mixed(seed)
		plant, intactPlant := sample.RoomyDfa(given)
		d, intactD := sample.RoomyDfa(other)
		check(t, plant, d, free, slowly(given, other, free))
		if !intactPlant() || !intactD() {
			t.Errorf("of %v and %v, one or memory behind it is changed", given, other)
		}
	}
}

// P4: nil and empty lists are the same.
func TestEmptyLists(t *testing.T) {
	whole := sample.Ring(0, 1)
	for _, d := range []api.Dfa{
		{Letters: 1}, {Letters: 1, Next: [][]int{}, Final: []bool{}},
		{Letters: 1, Next: [][]int{nil}, Final: []bool{true}}, {Letters: 1, Next: [][]int{{}}, Final: []bool{true}},
	} {
		check(t, d, whole, 0, answers{noKept: api.ErrShape, noMost: api.ErrShape})
		check(t, whole, d, 0, answers{noKept: api.ErrShape, noMost: api.ErrShape})
	}
}

// P2: an automaton may be both arguments, and its rows may be one.
func TestSharedArguments(t *testing.T) {
	row := []int{1, 2}
	d := api.Dfa{Letters: 2, Next: [][]int{row, row, row}, Final: []bool{true, true, false}}
	check(t, d, d, 3, slowly(d, d, 3))
	last := []int{2, 2}
	d.Next = [][]int{row, last, last}
	whole := api.Dfa{Letters: 2, Next: d.Next, Final: []bool{true, true, true}}
	check(t, whole, d, 2, answers{first: []int{1}, noMost: api.ErrNone})
	check(t, whole, d, 0, slowly(whole, d, 0))
	if !slices.Equal(row, []int{1, 2}) || !slices.Equal(last, []int{2, 2}) {
		t.Errorf("the rows became %v and %v", row, last)
	}
}

// given is a plant and a policy, and what is free.
type given struct {
	plant, spec api.Dfa
	free        int
}

// pairs are such as have a part that can be kept, and a word that leads out.
func pairs() []given {
	return []given{
		{machines(), shelf(), sample.SetOf("13")},
		{machines(), shelf(), sample.SetOf("1")},
		{sample.Among(3, "", "0", "011", "012"), sample.Among(3, "", "0", "011"), sample.SetOf("2")},
	}
}

// P2: what Make returns shares no memory with arguments or with other results, nor do its rows,
// not even behind their ends, and so it does not change when the arguments do later.
func TestMakeIsNew(t *testing.T) {
	for _, c := range pairs() {
		ofPlant := func(d api.Dfa) (api.Dfa, error) { return super.Make(d, c.spec, c.free) }
		ofSpec := func(d api.Dfa) (api.Dfa, error) { return super.Make(c.plant, d, c.free) }
		if !sample.MakesNew(c.plant, ofPlant) || !sample.MakesNew(c.spec, ofSpec) {
			t.Errorf("Make(%v, %v, %d) shares memory", c.plant, c.spec, c.free)
		}
	}
	for _, d := range []api.Dfa{sample.Ring(0, 1), sample.Ring(2, 3), shelf()} {
		if !sample.MakesNew(d, func(d api.Dfa) (api.Dfa, error) { return super.Make(d, d, 1) }) {
			t.Errorf("Make(%v, the same, 1) shares memory", d)
		}
	}
}

// P2: words share no memory with each other, not even behind their ends, and do not change
// when the arguments do later.
func TestWordsAreNew(t *testing.T) {
	for _, c := range pairs() {
		kept := func(plant, d api.Dfa) ([]int, error) {
			_, w, err := super.Kept(plant, d, c.free)
			return w, err
		}
		if !sample.WordsAreNew(c.plant, c.spec, kept) {
			t.Errorf("words of Kept(%v, %v, %d) share memory", c.plant, c.spec, c.free)
		}
	}
}

// P2: results depend on no earlier call, be it a good or a bad one.
func TestRepeats(t *testing.T) {
	for range 2 {
		for _, c := range sample.DfaChecks() {
			check(t, c.Dfa, shelf(), 1, slowly(c.Dfa, shelf(), 1))
			for _, p := range pairs() {
				check(t, p.plant, p.spec, p.free, slowly(p.plant, p.spec, p.free))
			}
		}
	}
}

// haveOnly tells whether the errors of both functions are, or wrap, one Errno and no other one.
func haveOnly(want api.Errno, plant, d api.Dfa, free int) bool {
	_, _, kept := super.Kept(plant, d, free)
	_, made := super.Make(plant, d, free)
	return sample.OnlyErrno(kept, want) && sample.OnlyErrno(made, want)
}

// P3: each error is an Errno.
func TestErrorsAreErrnos(t *testing.T) {
	for _, c := range sample.DfaPairs() {
		if !haveOnly(c.Want, c.A, c.B, 0) {
			t.Errorf("%s: the errors are not %v alone", c.Name, c.Want)
		}
	}
	if !haveOnly(api.ErrRange, shelf(), shelf(), 16) {
		t.Errorf("the errors for what is no set are not ErrRange alone")
	}
	if _, err := super.Make(sample.Ring(0, 7), sample.Ring(0, 6), 0); !sample.OnlyErrno(err, api.ErrFull) {
		t.Errorf("the error for too many pairs is %v", err)
	}
	if _, err := super.Make(shelf(), sample.NoneFinal(shelf()), 0); !sample.OnlyErrno(err, api.ErrNone) {
		t.Errorf("the error for what accepts nothing is %v", err)
	}
}

// P5: long arguments are no obstacle.
func TestLong(t *testing.T) {
	for _, c := range sample.LongDfas() {
		if !haveOnly(c.Want, c.Dfa, shelf(), 0) || !haveOnly(c.Want, shelf(), c.Dfa, 0) || !haveOnly(c.Want, c.Dfa, c.Dfa, 0) {
			t.Errorf("%s: the errors are not %v alone", c.Name, c.Want)
		}
	}
}
