package back_test

import (
	"math"
	"testing"

	"stileward/api"
	"stileward/back"
	"stileward/sample"
)

// P1: whatever the arguments, both functions return normally and do what the words say.
func FuzzBack(f *testing.F) {
	f.Add(1, "\x00\x00\x00")
	f.Add(3, "\x02\x05\x00\x06\x00\x00\x09\x01\x00")
	f.Add(2, "\x02\x03\x00\x04\x00\x00\x08\x01\x01\x05\x02\x02\x09\x03\x03\x03\x04\x00")
	f.Add(2, "\x02\x02\x00\x01\x00\x00\x07\x01\x00\x06\x02\x00\x06\x03\x00\x04\x00\x04\x00\x00\x00\x08\x06\x05")
	f.Add(2, "\x02\x02\x00\x06\x00\x00\x06\x01\x00\x06\x02\x00\x06\x03\x00\x06\x04\x00")
	f.Add(6, "\x02\x3f\x00\x03\x00\x00\x07\x01\x00")
	f.Add(0, "")
	f.Add(-1, "\xff\xff\xff")
	f.Add(7, "\x0a\x00\x00")
	f.Add(1, "\x03\x00\x00\x02\x02\x00")
	f.Add(math.MaxInt, "\x02\x01\x01")
	f.Fuzz(func(t *testing.T, letters int, nodes string) {
		f := sample.Form(nodes)
		checkBoth(t, letters, f)
		if _, err := back.Back(letters, f); err == nil {
			checkWords(t, letters, f, sample.Words(2, letters))
		}
	})
}

// errorsOf returns the errors of both functions.
func errorsOf(letters int, f []api.Node) []error {
	_, backwards := back.Back(letters, f)
	_, forwards := back.Make(letters, f)
	return []error{backwards, forwards}
}

// P2, P4: both functions leave their argument and what is behind it as they are, and read nothing there.
func TestArgumentsAreLeft(t *testing.T) {
	for _, c := range sample.FormChecks() {
		f, intact := sample.RoomyForm(c.Form)
		checkBoth(t, c.Letters, f)
		if !intact() {
			t.Errorf("%s: the argument, or memory behind it, is changed", c.Name)
		}
	}
}

// P2: results share no memory with arguments or with each other, nor do their rows, not even
// behind their ends, and so they do not change when the argument does later.
func TestResultsAreNew(t *testing.T) {
	forms := [][]api.Node{sample.Stacked(40, sample.Node(0, 0, 0), 6), sample.Stacked(1, sample.Node(0, 0, 0), 3)}
	for seed := range uint64(100) {
		forms = append(forms, sample.MixedTree(sample.Below(seed), 3, 1+int(seed)%20).Nodes())
	}
	made := 0
	for _, given := range forms {
		for i, maker := range []func(letters int, f []api.Node) (api.Dfa, error){back.Back, back.Make} {
			f, left := sample.RoomyForm(given)
			first, err := maker(3, f)
			if err != nil {
				continue
			}
			want := sample.CloneDfa(first)
			intact := sample.SpoilDfa(first, -100)
			again, err := maker(3, f)
			if !sample.EqualDfas(again, want) || err != nil {
				t.Errorf("result %d of %v is %v, and then %v, %v", i, given, want, again, err)
			}
			intactAgain := sample.SpoilDfa(again, -201)
			isLeft := left()
			sample.SpoilForm(f, -302)
			if !intact() || !intactAgain() || !isLeft {
				t.Errorf("result %d of %v shares memory", i, given)
			}
			made++
		}
	}
	if made < 150 {
		t.Errorf("%d automata are made", made)
	}
}

// P2: results depend on no earlier call, be it a good or a bad one.
func TestRepeats(t *testing.T) {
	for range 3 {
		for _, c := range sample.FormChecks() {
			checkBoth(t, c.Letters, c.Form)
			checkBoth(t, 2, sample.Stacked(6, sample.Node(2, 1, 0), 6))
			checkBoth(t, 2, sample.Stacked(4, sample.Node(2, 1, 0), 6))
		}
	}
}

// P3: each error is, or wraps, the Errno that it stands for, and no other one.
func TestErrorsAreErrnos(t *testing.T) {
	for _, c := range sample.FormChecks() {
		for i, err := range errorsOf(c.Letters, c.Form) {
			if c.Want != api.OK && !sample.OnlyErrno(err, c.Want) {
				t.Errorf("%s: error %d is %v, not %v alone", c.Name, i, err, c.Want)
			}
		}
	}
	for i, err := range errorsOf(2, sample.Stacked(6, sample.Node(2, 1, 0), 6)) {
		if !sample.OnlyErrno(err, api.ErrFull) {
			t.Errorf("error %d of too many states is %v, not ErrFull alone", i, err)
		}
	}
	if _, err := back.Make(2, read(t, 2, "tU([1]&XXXXXXWf)")); !sample.OnlyErrno(err, api.ErrFull) {
		t.Errorf("Make = %v, not ErrFull alone", err)
	}
}

// P4: nil and the empty list are one argument.
func TestNilIsEmpty(t *testing.T) {
	for _, letters := range []int{-1, 0, 1, 6, 7} {
		checkBoth(t, letters, nil)
		checkBoth(t, letters, []api.Node{})
	}
}

// P5: long arguments are no obstacle.
func TestLong(t *testing.T) {
	for _, c := range sample.LongForms() {
		for i, err := range errorsOf(c.Letters, c.Form) {
			if !sample.OnlyErrno(err, c.Want) {
				t.Errorf("%s: error %d is %v, want %v", c.Name, i, err, c.Want)
			}
		}
	}
}
