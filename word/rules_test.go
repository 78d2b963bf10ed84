package word_test

import (
	"slices"
	"testing"

	"stileward/api"
	"stileward/plain"
	"stileward/sample"
	"stileward/word"
)

// P1: whatever the arguments, all functions return normally and do what the words say.
func FuzzWords(f *testing.F) {
	f.Add(1, "", "", 0)
	f.Add(2, "\x00\x01", "\x00\x00\x01\x01", 2)
	f.Add(6, "\x05\x04\x03\x02\x01\x00", "\x05\x04\x03\x02\x00\x01", 63)
	f.Add(3, "\xff", "\x03", -1)
	f.Add(-1, "\x80", "\x7f", 64)
	f.Fuzz(func(t *testing.T, letters int, first, second string, set int) {
		v, w := sample.Word(first), sample.Word(second)
		want := checkSlowly(letters, v)
		if err := word.Check(letters, v); plain.Told(err) != want {
			t.Errorf("Check(%d, %v) = %v, want %v", letters, v, err, want)
		}
		got, err := word.Only(letters, v, set)
		left, want := onlySlowly(letters, v, set)
		if !slices.Equal(got, left) || plain.Told(err) != want {
			t.Errorf("Only(%d, %v, %d) = %v, %v, want %v, %v", letters, v, set, got, err, left, want)
		}
		got, err = word.Mirror(letters, v)
		mirrored, want := mirrorSlowly(letters, v)
		if !slices.Equal(got, mirrored) || plain.Told(err) != want {
			t.Errorf("Mirror(%d, %v) = %v, %v, want %v, %v", letters, v, got, err, mirrored, want)
		}
		checkPair(t, letters, v, w)
	})
}

// checkPair demands of Sub and Less what the words say. It compares Sub only
// for short words, as the slow way takes too long for others.
func checkPair(t *testing.T, letters int, v, w []int) {
	want := bothSlowly(letters, v, w)
	is, err := word.Sub(letters, v, w)
	if plain.Told(err) != want || err != nil && is {
		t.Errorf("Sub(%d, %v, %v) = %v, %v, want %v", letters, v, w, is, err, want)
	}
	if err == nil && len(w) < 16 && is != remains(v, w) {
		t.Errorf("Sub(%d, %v, %v) = %v", letters, v, w, is)
	}
	is, err = word.Less(letters, v, w)
	if plain.Told(err) != want || err != nil && is {
		t.Errorf("Less(%d, %v, %v) = %v, %v, want %v", letters, v, w, is, err, want)
	}
	if err == nil && is != lessSlowly(v, w) {
		t.Errorf("Less(%d, %v, %v) = %v", letters, v, w, is)
	}
}

// P2, P4: all functions leave their arguments and what is behind them as they are, and read nothing there.
func TestArgumentsAreLeft(t *testing.T) {
	for _, c := range sample.Checks() {
		w, intact := sample.Roomy(c.Word)
		other, otherIntact := sample.Roomy([]int{0, 0})
		got, err := word.Only(c.Letters, w, 1)
		if want, wrong := onlySlowly(c.Letters, c.Word, 1); !slices.Equal(got, want) || plain.Told(err) != wrong {
			t.Errorf("%s: Only = %v, %v, want %v, %v", c.Name, got, err, want, wrong)
		}
		got, err = word.Mirror(c.Letters, w)
		if want, wrong := mirrorSlowly(c.Letters, c.Word); !slices.Equal(got, want) || plain.Told(err) != wrong {
			t.Errorf("%s: Mirror = %v, %v, want %v, %v", c.Name, got, err, want, wrong)
		}
		if err := word.Check(c.Letters, w); plain.Told(err) != c.Want {
			t.Errorf("%s: Check = %v", c.Name, err)
		}
		if is, err := word.Sub(c.Letters, w, w); is != (c.Want == api.OK) || plain.Told(err) != c.Want {
			t.Errorf("%s: Sub = %v, %v", c.Name, is, err)
		}
		if is, err := word.Less(c.Letters, w, w); is || plain.Told(err) != c.Want {
			t.Errorf("%s: Less = %v, %v", c.Name, is, err)
		}
		checkPair(t, c.Letters, w, other)
		checkPair(t, c.Letters, other, w)
		if !intact() || !otherIntact() {
			t.Errorf("%s: an argument, or memory behind it, is changed", c.Name)
		}
	}
}

// P2: results share no memory with arguments or with each other, not even behind their ends.
func TestResultsAreNew(t *testing.T) {
	calls := []struct {
		name string
		call func(w []int) ([]int, error)
	}{
		{"Only", func(w []int) ([]int, error) { return word.Only(3, w, 7) }},
		{"Only some", func(w []int) ([]int, error) { return word.Only(3, w, 4) }},
		{"Only none", func(w []int) ([]int, error) { return word.Only(3, w, 0) }},
		{"Mirror", func(w []int) ([]int, error) { return word.Mirror(3, w) }},
	}
	for _, c := range calls {
		for _, w := range [][]int{nil, {}, {1}, {2, 1}, {2, 0, 1, 2, 2}} {
			argument, intact := sample.Roomy(w)
			first, err := c.call(argument)
			want := slices.Clone(first)
			sample.Fill(first, -1)
			second, wrong := c.call(argument)
			if !slices.Equal(second, want) || err != nil || wrong != nil {
				t.Errorf("%s of %v is first %v, %v and then %v, %v", c.name, w, want, err, second, wrong)
			}
			sample.Fill(second, -2)
			if slices.Contains(first[:cap(first)], -2) || !intact() {
				t.Errorf("%s of %v shares memory", c.name, w)
			}
		}
	}
}

// P2: what was returned does not change when the argument does later.
func TestNothingIsKept(t *testing.T) {
	w := []int{0, 1, 2}
	left, err := word.Only(3, w, 5)
	mirrored, wrong := word.Mirror(3, w)
	sample.Fill(w, 1)
	if !slices.Equal(left, []int{0, 2}) || !slices.Equal(mirrored, []int{2, 1, 0}) || err != nil || wrong != nil {
		t.Errorf("Only became %v, %v, Mirror %v, %v", left, err, mirrored, wrong)
	}
}

// P3: each error is, or wraps, the Errno that it stands for, and no other one.
func TestErrorsAreErrnos(t *testing.T) {
	for _, c := range sample.Checks() {
		if c.Want == api.OK {
			continue
		}
		check := word.Check(c.Letters, c.Word)
		_, only := word.Only(c.Letters, c.Word, 0)
		_, mirror := word.Mirror(c.Letters, c.Word)
		_, sub := word.Sub(c.Letters, c.Word, nil)
		_, less := word.Less(c.Letters, c.Word, nil)
		for i, err := range []error{check, only, mirror, sub, less} {
			if !sample.OnlyErrno(err, c.Want) {
				t.Errorf("%s: error %d is %v, not %v alone", c.Name, i, err, c.Want)
			}
		}
	}
	if _, err := word.Only(1, nil, 2); !sample.OnlyErrno(err, api.ErrRange) {
		t.Errorf("Only = %v, not ErrRange alone", err)
	}
}

// P5: long arguments are no obstacle.
func TestLong(t *testing.T) {
	long := make([]int, 1<<24)
	_, only := word.Only(1, long, 2)
	_, mirror := word.Mirror(1, long)
	_, sub := word.Sub(1, nil, long)
	_, less := word.Less(1, long, nil)
	for i, err := range []error{word.Check(1, long), only, mirror, sub, less} {
		if !sample.OnlyErrno(err, api.ErrFull) {
			t.Errorf("error %d is %v", i, err)
		}
	}
}
