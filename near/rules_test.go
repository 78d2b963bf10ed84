package near_test

import (
	"math"
	"slices"
	"testing"

	"stileward/api"
	"stileward/near"
	"stileward/plain"
	"stileward/sample"
)

// P1: whatever the arguments, both functions return normally and do what the words say.
func FuzzNear(f *testing.F) {
	f.Add(1, "", "")
	f.Add(3, "\x01\x02", "\x02\x00\x01\x01\x00\x02")
	f.Add(6, "\x05\x04\x03\x02\x01\x00", "\x00\x05\x01\x04\x02\x03")
	f.Add(3, "\xff", "\x03")
	f.Add(-1, "\x80", "\x7f")
	f.Add(math.MinInt, "", "\x00")
	f.Add(math.MaxInt, "\x00", "")
	f.Fuzz(func(t *testing.T, letters int, first, second string) {
		checkPair(t, letters, sample.Word(first), sample.Word(second))
	})
}

// checkPair demands of both functions what the words say, with each of the words as the first one.
func checkPair(t *testing.T, letters int, v, w []int) {
	t.Helper()
	for range 2 {
		want := wrongOf(letters, v, w)
		var distance int
		var common []int
		if want == api.OK {
			distance = distanceSlowly(v, w, map[pair]int{})
			common = commonSlowly(v, w, map[pair][]int{})
		}
		if got, err := near.Distance(letters, v, w); got != distance || plain.Told(err) != want {
			t.Errorf("Distance(%d, %v, %v) = %d, %v, want %d, %v", letters, v, w, got, err, distance, want)
		}
		if got, err := near.Common(letters, v, w); !slices.Equal(got, common) || plain.Told(err) != want {
			t.Errorf("Common(%d, %v, %v) = %v, %v, want %v, %v", letters, v, w, got, err, common, want)
		}
		v, w = w, v
	}
}

// P2, P4: both functions leave their arguments and what is behind them as they are, and read nothing there.
func TestArgumentsAreLeft(t *testing.T) {
	for _, c := range sample.Checks() {
		w, intact := sample.Roomy(c.Word)
		other, otherIntact := sample.Roomy([]int{0, 0})
		checkPair(t, c.Letters, w, other)
		checkPair(t, c.Letters, w, w)
		if !intact() || !otherIntact() {
			t.Errorf("%s: an argument, or memory behind it, is changed", c.Name)
		}
	}
}

// P2: results of Common share no memory with arguments or with each other, not even behind their ends.
func TestResultsAreNew(t *testing.T) {
	for _, v := range [][]int{nil, {}, {1}, {2, 1}, {2, 0, 1, 2, 2}} {
		for _, w := range [][]int{v, {0}, {2, 2, 1, 2}} {
			first, firstIntact := sample.Roomy(v)
			second, secondIntact := sample.Roomy(w)
			common, err := near.Common(3, first, second)
			want := slices.Clone(common)
			sample.Fill(common, -1)
			again, wrong := near.Common(3, first, second)
			if !slices.Equal(again, want) || err != nil || wrong != nil {
				t.Errorf("Common of %v and %v is first %v, %v and then %v, %v", v, w, want, err, again, wrong)
			}
			sample.Fill(again, -2)
			if slices.Contains(common[:cap(common)], -2) || !firstIntact() || !secondIntact() {
				t.Errorf("Common of %v and %v shares memory", v, w)
			}
		}
	}
}

// P2: what was returned does not change when the arguments do later.
func TestNothingIsKept(t *testing.T) {
	v, w := []int{0, 1, 2}, []int{0, 2, 1, 2}
	common, err := near.Common(3, v, w)
	sample.Fill(v, 1)
	sample.Fill(w, 1)
	if !slices.Equal(common, []int{0, 1, 2}) || err != nil {
		t.Errorf("Common became %v, %v", common, err)
	}
}

// P3: each error is, or wraps, the Errno that it stands for, and no other one.
func TestErrorsAreErrnos(t *testing.T) {
	for _, c := range sample.Checks() {
		if c.Want == api.OK {
			continue
		}
		_, distance := near.Distance(c.Letters, c.Word, nil)
		_, common := near.Common(c.Letters, c.Word, nil)
		_, distanceTo := near.Distance(c.Letters, nil, c.Word)
		_, commonTo := near.Common(c.Letters, nil, c.Word)
		for i, err := range []error{distance, common, distanceTo, commonTo} {
			if !sample.OnlyErrno(err, c.Want) {
				t.Errorf("%s: error %d is %v, not %v alone", c.Name, i, err, c.Want)
			}
		}
	}
}

// P5: long arguments are no obstacle.
func TestLong(t *testing.T) {
	long := make([]int, 1<<24)
	_, distance := near.Distance(1, long, long)
	_, common := near.Common(1, long, long)
	_, distanceTo := near.Distance(1, nil, long)
	_, commonTo := near.Common(1, nil, long)
	for i, err := range []error{distance, common, distanceTo, commonTo} {
		if !sample.OnlyErrno(err, api.ErrFull) {
			t.Errorf("error %d is %v", i, err)
		}
	}
}
