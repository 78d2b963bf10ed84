package duel_test

import (
	"slices"
	"testing"

	"stileward/api"
	"stileward/duel"
	"stileward/sample"
)

// P1: whatever the arguments, all functions return normally and do what the words say.
func FuzzDuel(f *testing.F) {
	f.Add("\x00", "\x00", "\x01")
	f.Add("\x00\x01\x00", "\x01\x02,\x00\x02,\x02", "\x00\x00\x01")
	f.Add("\x01\x01", "\x00\x01,\x01", "\x00\x01")
	f.Add("\x01\x00\x01\x00", "\x01\x02,\x03,\x03\x01,\x03", "\x00\x00\x00\x01")
	f.Add("", "", "")
	f.Add("\x02", "", "\x00")
	f.Add("\x00\x00", "\x01,", "\x00\x00")
	f.Add("\x00", "\xff", "\x00\x01")
	f.Fuzz(func(t *testing.T, owners, rows, goals string) {
		a := arena(owners, rows, goals)
		check(t, a, slowly(a))
	})
}

// P2, P4: all functions leave an arena and what is behind it as they are, and read nothing there.
func TestArgumentsAreLeft(t *testing.T) {
	for _, c := range checks() {
		a, intact := roomy(c.a)
		check(t, a, slowly(c.a))
		if !intact() {
			t.Errorf("%s: the arena, or memory behind it, is changed", c.name)
		}
	}
}

// P4: nil and empty lists are the same.
func TestEmptyLists(t *testing.T) {
	for _, c := range []api.Arena{{}, {Next: [][]int{}}, {Owner: []int{}}, {Goal: []bool{}}} {
		check(t, c, answers{wrong: api.ErrShape})
	}
	for _, row := range [][]int{nil, {}} {
		check(t, api.Arena{Owner: []int{0}, Next: [][]int{row}, Goal: []bool{true}}, answers{wrong: api.ErrShape})
	}
}

// P2: the rows and the owners of an arena may be one list.
func TestSharedRows(t *testing.T) {
	row := []int{1, 0}
	a := api.Arena{Owner: row, Next: [][]int{row, row}, Goal: []bool{false, false}}
	check(t, a, answers{ranks: []int{-1, -1}, moves: []int{1, -1}})
	a.Goal[0] = true
	check(t, a, answers{ranks: []int{0, 1}, moves: []int{-1, 0}})
	if !slices.Equal(row, []int{1, 0}) {
		t.Errorf("the row became %v", row)
	}
}

// P2: ranks and moves share no memory with arguments or with each other, not even behind their
// ends, and so they do not change when the arguments do later.
func TestListsAreNew(t *testing.T) {
	for i, call := range []func(a api.Arena) ([]int, error){duel.Ranks, duel.Moves} {
		for _, given := range []api.Arena{path(1, 0), path(40, 0), path(40, 1), mixed(1, 7, 3, 3), layered(2, 40, 4)} {
			a, intact := roomy(given)
			first, err := call(a)
			want := slices.Clone(first)
			sample.Fill(first, -8)
			again, wrong := call(a)
			if !slices.Equal(again, want) || err != nil || wrong != nil {
				t.Errorf("of %v, function %d returns first %v, %v and then %v, %v", given, i, want, err, again, wrong)
			}
			sample.Fill(again, -9)
			if slices.Contains(first[:cap(first)], -9) || !intact() {
				t.Errorf("of %v, function %d shares memory", given, i)
			}
			kept, _ := call(a)
			spoil(a)
			if !slices.Equal(kept, want) {
				t.Errorf("the list became %v, want %v", kept, want)
			}
		}
	}
}

// P2: results depend on no earlier call, be it a good or a bad one.
func TestRepeats(t *testing.T) {
	for range 3 {
		for _, c := range checks() {
			check(t, c.a, slowly(c.a))
			check(t, path(3, 0), answers{ranks: []int{2, 1, 0}, moves: []int{1, 2, -1}})
		}
	}
}

// haveOnly tells whether the errors of all functions are, or wrap, one Errno and no other one.
func haveOnly(want api.Errno, a api.Arena) bool {
	_, ranks := duel.Ranks(a)
	_, moves := duel.Moves(a)
	return sample.OnlyErrno(duel.Check(a), want) && sample.OnlyErrno(ranks, want) && sample.OnlyErrno(moves, want)
}

// P3: each error is an Errno.
func TestErrorsAreErrnos(t *testing.T) {
	for _, c := range checks() {
		if c.want != api.OK && !haveOnly(c.want, c.a) {
			t.Errorf("%s: the errors are not %v alone", c.name, c.want)
		}
	}
}

// P5: long arguments are no obstacle.
func TestLong(t *testing.T) {
	for _, c := range longArenas() {
		if !haveOnly(c.want, c.a) {
			t.Errorf("%s: the errors are not %v alone", c.name, c.want)
		}
	}
}
