package past_test

import (
	"math"
	"slices"
	"testing"

	"stileward/api"
	"stileward/past"
	"stileward/sample"
)

// P1: whatever the arguments, all functions return normally and do what the words say.
func FuzzPast(f *testing.F) {
	f.Add(1, "\x00\x00\x00", "", "\x01", 0)
	f.Add(3, "\x02\x05\x00\x0a\x00\x00\x0b\x01\x00", "\x00\x01\x02", "\x00\x01\x00", 2)
	f.Add(2, "\x02\x03\x00\x04\x00\x00\x0b\x01\x01\x05\x02\x02\x0b\x03\x02\x03\x04\x00", "\x01\x01\x00", "\x01\x01\x01\x01\x01\x01", 1)
	f.Add(6, "\x02\x3f\x00\x03\x00\x00\x0a\x01\x00", "\x05\x00", "", 5)
	f.Add(2, "\x02\x03\x00\x06\x00\x00", "\x00", "\x00\x00", 0)
	f.Add(0, "", "", "", -1)
	f.Add(-1, "\xff\xff\xff", "\xff", "\x00", 6)
	f.Add(7, "\x0c\x00\x00", "\x06", "\x00", math.MaxInt)
	f.Add(1, "\x03\x00\x00\x02\x02\x00", "\x01", "\x00\x00", math.MinInt)
	f.Add(math.MaxInt, "\x02\x01\x01", "\x00", "\x00", 0)
	f.Fuzz(func(t *testing.T, letters int, nodes, text, values string, a int) {
		was := make([]bool, len(values))
		for i := range was {
			was[i] = values[i]&1 == 1
		}
		checkAll(t, letters, sample.Form(nodes), sample.Word(text), was, a)
	})
}

// checkAll demands of all functions what the words say.
func checkAll(t *testing.T, letters int, f []api.Node, w []int, was []bool, a int) {
	t.Helper()
	checkCheck(t, letters, f)
	checkWord(t, letters, f, w)
	checkStart(t, letters, f)
	checkFeed(t, letters, f, was, a)
	checkMirror(t, letters, f)
}

// errorsOf returns the errors of all functions.
func errorsOf(letters int, f []api.Node, w []int, was []bool, a int) []error {
	_, holds := past.Holds(letters, f, w)
	_, start := past.Start(letters, f)
	_, feed := past.Feed(letters, f, was, a)
	_, mirror := past.Mirror(letters, f)
	return []error{past.Check(letters, f), holds, start, feed, mirror}
}

// P2, P4: all functions leave their arguments and what is behind them as they are, and read nothing there.
func TestArgumentsAreLeft(t *testing.T) {
	words := sample.Checks()
	for i, c := range checks() {
		f, intactF := sample.RoomyForm(c.Form)
		w, intactW := sample.Roomy(words[i%len(words)].Word)
		for _, count := range []int{max(0, len(f)-1), len(f), len(f) + 1} {
			values := slices.Repeat([]bool{true, false}, len(f)+9)
			before := slices.Clone(values)
			checkAll(t, c.Letters, f, w, values[:count], 0)
			if !intactF() || !intactW() || !slices.Equal(values, before) {
				t.Errorf("%s: an argument, or memory behind it, is changed", c.Name)
			}
		}
	}
}

// formsOf returns formulas of three letters.
func formsOf() [][]api.Node {
	forms := [][]api.Node{steps(), make([]api.Node, 1), turned(sample.Stacked(40, sample.Node(2, 1, 0), 8))}
	for seed := range uint64(200) {
		forms = append(forms, turned(sample.MixedForm(seed, 3, 1+int(seed)%40)))
	}
	return forms
}

// P2: lists of values share no memory with each other or with arguments, not even behind
// their ends, and so they do not change when an argument does later.
func TestValuesAreNew(t *testing.T) {
	for _, f := range formsOf() {
		was := append(slices.Repeat([]bool{true}, len(f)), make([]bool, 9)...)
		before := slices.Clone(was)
		makers := []func() ([]bool, error){
			func() ([]bool, error) { return past.Start(3, f) },
			func() ([]bool, error) { return past.Feed(3, f, was[:len(f)], 1) },
		}
		for i, maker := range makers {
			first, err := maker()
			want := slices.Clone(first)
			intact := sample.SpoilBools(first, true)
			again, wrong := maker()
			if !slices.Equal(again, want) || len(want) != len(f) || err != nil || wrong != nil {
				t.Errorf("list %d of %v is %v, %v, and then %v, %v", i, f, want, err, again, wrong)
			}
			intactAgain := sample.SpoilBools(again, false)
			isLeft := slices.Equal(was, before)
			intactWas := sample.SpoilBools(was, false)
			if !intact() || !intactAgain() || !intactWas() || !isLeft {
				t.Errorf("list %d of %v shares memory", i, f)
			}
			copy(was, before)
		}
	}
}

// P2: results of Mirror share no memory with arguments or with each other, not even behind
// their ends, and so they do not change when the argument does later.
func TestMirrorIsNew(t *testing.T) {
	for _, given := range formsOf() {
		f, left := sample.RoomyForm(given)
		first, err := past.Mirror(3, f)
		want := slices.Clone(first)
		intact := sample.SpoilForm(first, -100)
		again, wrong := past.Mirror(3, f)
		if !slices.Equal(again, want) || err != nil || wrong != nil {
			t.Errorf("Mirror(3, %v) = %v, %v, and then %v, %v", given, want, err, again, wrong)
		}
		intactAgain := sample.SpoilForm(again, -201)
		isLeft := left()
		sample.SpoilForm(f, -302)
		if !intact() || !intactAgain() || !isLeft {
			t.Errorf("Mirror(3, %v) shares memory", given)
		}
	}
}

// P2: results depend on no earlier call, be it a good or a bad one.
func TestRepeats(t *testing.T) {
	for range 3 {
		for _, c := range checks() {
			checkAll(t, c.Letters, c.Form, []int{0}, make([]bool, len(c.Form)), 0)
			checkAll(t, 2, turned(sample.Stacked(40, sample.Node(2, 3, 0), 8)), sample.Repeated(81, 0), make([]bool, 40), 2)
			checkAll(t, 3, steps(), []int{1, 0}, slices.Repeat([]bool{true}, len(steps())), 1)
		}
	}
}

// P3: each error is, or wraps, the Errno that it stands for, and no other one.
func TestErrorsAreErrnos(t *testing.T) {
	for _, c := range checks() {
		for i, err := range errorsOf(c.Letters, c.Form, nil, make([]bool, len(c.Form)), 0) {
			if c.Want != api.OK && !sample.OnlyErrno(err, c.Want) {
				t.Errorf("%s: error %d is %v, not %v alone", c.Name, i, err, c.Want)
			}
		}
	}
	for _, c := range sample.Checks() {
		if _, err := past.Holds(c.Letters, make([]api.Node, 1), c.Word); c.Want != api.OK && !sample.OnlyErrno(err, c.Want) {
			t.Errorf("%s: Holds = %v, not %v alone", c.Name, err, c.Want)
		}
	}
	if _, err := past.Feed(3, steps(), nil, 0); !sample.OnlyErrno(err, api.ErrShape) {
		t.Errorf("Feed of no values = %v, not ErrShape alone", err)
	}
	if _, err := past.Feed(3, steps(), make([]bool, len(steps())), 3); !sample.OnlyErrno(err, api.ErrRange) {
		t.Errorf("Feed of no letter = %v, not ErrRange alone", err)
	}
}

// P4: nil and the empty list are one argument.
func TestNilIsEmpty(t *testing.T) {
	for _, letters := range []int{0, 1} {
		for _, f := range [][]api.Node{nil, {}, {{Kind: 10}}, {{Kind: 0}, {Kind: 10}}} {
			checkAll(t, letters, f, nil, nil, 0)
			checkAll(t, letters, f, []int{}, []bool{}, 0)
		}
	}
}

// P5: long arguments are no obstacle.
func TestLong(t *testing.T) {
	const long = 1 << 24
	for _, c := range sample.LongForms() {
		for i, err := range errorsOf(c.Letters, c.Form, make([]int, long), make([]bool, long), 0) {
			if !sample.OnlyErrno(err, c.Want) {
				t.Errorf("%s: error %d is %v, want %v", c.Name, i, err, c.Want)
			}
		}
	}
	if _, err := past.Holds(3, steps(), make([]int, long)); !sample.OnlyErrno(err, api.ErrFull) {
		t.Errorf("Holds of a long word = %v", err)
	}
	if _, err := past.Feed(3, steps(), make([]bool, long), 0); !sample.OnlyErrno(err, api.ErrShape) {
		t.Errorf("Feed of a long list = %v", err)
	}
}
