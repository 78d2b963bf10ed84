package near_test

import (
	"slices"
	"testing"

	"stileward/api"
	"stileward/near"
	"stileward/plain"
	"stileward/sample"
	"stileward/word"
)

// 5.1: Distance counts insertions, removals and replacements, and no more of them than are needed.
func TestDistance(t *testing.T) {
	zeros, ones := sample.Repeated(80, 0), sample.Repeated(80, 1)
	cases := []struct {
		letters int
		v, w    []int
		want    int
	}{
		{1, nil, nil, 0},
		{1, nil, []int{}, 0},
		{1, []int{}, nil, 0},
		{1, nil, []int{0}, 1},
		{1, []int{0}, []int{}, 1},
		{1, []int{0, 0}, []int{0}, 1},
		{1, []int{0}, []int{0, 0, 0}, 2},
		{6, []int{5}, []int{5}, 0},
		{6, []int{0}, []int{5}, 1},
		{2, []int{0, 1}, []int{1, 0}, 2},
		{2, []int{0, 1, 0}, []int{1, 0, 1}, 2},
		{2, []int{0, 0, 1, 1}, []int{1, 1, 0, 0}, 4},
		{3, []int{0, 1, 2}, []int{1, 2}, 1},
		{3, []int{0, 1, 2}, []int{0, 2}, 1},
		{3, []int{0, 1, 2}, []int{0, 1}, 1},
		{3, []int{1, 2}, []int{2, 1, 2}, 1},
		{3, []int{1, 2}, []int{1, 0, 2}, 1},
		{3, []int{1, 2}, []int{1, 2, 0}, 1},
		{3, []int{0, 1, 2}, []int{2, 1, 2}, 1},
		{3, []int{0, 1, 2}, []int{0, 0, 2}, 1},
		{3, []int{0, 1, 2}, []int{0, 1, 1}, 1},
		{3, []int{0, 1, 2}, []int{2, 1, 0}, 2},
		{3, []int{0, 1, 2}, []int{1, 2, 0}, 2},
		{3, []int{1, 2}, []int{2, 0, 1, 1, 0, 2}, 4},
		{6, []int{0, 1, 2, 3, 4, 5}, []int{5, 4, 3, 2, 1, 0}, 6},
		{6, []int{0, 1, 2, 3, 4}, []int{1, 2, 3, 4, 5}, 2},
		{6, []int{4, 0, 1, 1, 2, 3}, []int{5, 0, 1, 1, 0, 3, 2}, 3},
		{2, zeros, zeros, 0},
		{2, zeros, ones, 80},
		{2, nil, ones, 80},
		{2, zeros, nil, 80},
		{2, zeros[1:], zeros, 1},
		{2, zeros, ones[1:], 80},
		{2, sample.Replaced(zeros, 79, 1), zeros, 1},
		{2, sample.Replaced(zeros, 79, 1), sample.Replaced(zeros, 0, 1), 2},
		{2, slices.Repeat([]int{0, 1}, 40), slices.Repeat([]int{1, 0}, 40), 2},
		{2, slices.Repeat([]int{0, 1}, 40), ones, 40},
		{2, slices.Repeat([]int{0, 1}, 40), ones[:40], 40},
	}
	for _, c := range cases {
		got, err := near.Distance(c.letters, c.v, c.w)
		if got != c.want || err != nil {
			t.Errorf("Distance(%d, %v, %v) = %d, %v, want %d", c.letters, c.v, c.w, got, err, c.want)
		}
	}
}

// 5.1: Distance of all pairs of short words is the number of edits that lead from the one to the other.
func TestDistanceAll(t *testing.T) {
	for i, longest := range []int{9, 5, 3, 3} {
		letters := i + 1
		words := sample.Words(longest, letters)
		for _, v := range words {
			// A word between them may be longer than both.
			want := distances(letters, longest+1, v)
			for _, w := range words {
				got, err := near.Distance(letters, v, w)
				if got != want[key(w)] || err != nil {
					t.Fatalf("Distance(%d, %v, %v) = %d, %v, want %d", letters, v, w, got, err, want[key(w)])
				}
			}
		}
	}
}

// 5.1: Common is the longest common subsequence, and of several ones the first by its letters.
func TestCommon(t *testing.T) {
	zeros, ones := sample.Repeated(80, 0), sample.Repeated(80, 1)
	cases := []struct {
		letters    int
		v, w, want []int
	}{
		{1, nil, nil, nil},
		{1, []int{}, nil, nil},
		{1, nil, []int{0}, nil},
		{1, []int{0}, nil, nil},
		{1, []int{0}, []int{0}, []int{0}},
		{1, []int{0, 0, 0}, []int{0, 0}, []int{0, 0}},
		{2, []int{0, 0}, []int{1, 1}, nil},
		{6, []int{5}, []int{5}, []int{5}},
		{2, []int{0, 1, 0}, []int{1, 0, 1}, []int{0, 1}},
		{3, []int{0, 1, 2}, []int{0, 1, 2}, []int{0, 1, 2}},
		{3, []int{0, 1, 2}, []int{1, 0, 2}, []int{0, 2}},
		{3, []int{0, 1, 2}, []int{1, 0, 2, 1}, []int{0, 1}},
		{3, []int{1, 2}, []int{2, 0, 1, 1, 0, 2}, []int{1, 2}},
		{3, []int{2, 1, 2, 1, 1, 0, 1, 0}, []int{2, 1, 2, 1, 0, 1, 0}, []int{2, 1, 2, 1, 0, 1, 0}},
		{6, []int{0, 1, 2, 3, 4, 5}, []int{5, 3, 4, 0, 2, 1}, []int{0, 1}},
		// A longer one that begins with a greater letter goes before a shorter one.
		{3, []int{0, 1, 2}, []int{1, 2, 0}, []int{1, 2}},
		{6, []int{0, 5, 4, 5}, []int{5, 4, 5, 0}, []int{5, 4, 5}},
		// Of equally long ones, the letters decide, and of those the first that differ.
		{2, []int{0, 1}, []int{1, 0}, []int{0}},
		{3, []int{2, 1, 0}, []int{0, 1, 2}, []int{0}},
		{6, []int{5, 4}, []int{4, 5}, []int{4}},
		{4, []int{0, 3, 1, 2}, []int{1, 2, 0, 3}, []int{0, 3}},
		{4, []int{1, 0, 2, 3}, []int{0, 1, 3, 2}, []int{0, 2}},
		{4, []int{3, 0, 2, 1}, []int{3, 1, 2, 0}, []int{3, 0}},
		{4, []int{0, 3, 0, 1}, []int{0, 1, 0, 3}, []int{0, 0}},
		{6, []int{5, 4, 5, 3, 2}, []int{4, 5, 2, 3}, []int{4, 5, 2}},
		{2, zeros, zeros, zeros},
		{2, zeros, ones, nil},
		{2, zeros[1:], zeros, zeros[1:]},
		{2, sample.Replaced(zeros, 79, 1), sample.Replaced(zeros, 0, 1), zeros[1:]},
		{2, sample.Replaced(zeros, 40, 1), sample.Replaced(zeros, 41, 1), zeros[1:]},
		{2, sample.Replaced(ones, 79, 0), sample.Replaced(ones, 78, 0), sample.Replaced(ones[1:], 78, 0)},
		{2, slices.Repeat([]int{0, 1}, 40), slices.Repeat([]int{1, 0}, 40), slices.Repeat([]int{0, 1}, 40)[:79]},
		{2, slices.Repeat([]int{0, 1}, 40), ones, ones[:40]},
		{2, ones[:40], slices.Repeat([]int{0, 1}, 40), ones[:40]},
	}
	for _, c := range cases {
		for _, p := range [][2][]int{{c.v, c.w}, {c.w, c.v}} {
			got, err := near.Common(c.letters, p[0], p[1])
			if !slices.Equal(got, c.want) || err != nil {
				t.Errorf("Common(%d, %v, %v) = %v, %v, want %v", c.letters, p[0], p[1], got, err, c.want)
			}
		}
	}
}

// 5.1: Common of all pairs of short words is the best of all subsequences.
func TestCommonAll(t *testing.T) {
	for i, longest := range []int{9, 6, 4, 3, 3, 3} {
		letters := i + 1
		words := sample.Words(longest, letters)
		for _, v := range words {
			for _, w := range words {
				got, err := near.Common(letters, v, w)
				if want := commonOfAll(letters, v, w); !slices.Equal(got, want) || err != nil {
					t.Fatalf("Common(%d, %v, %v) = %v, %v, want %v", letters, v, w, got, err, want)
				}
			}
		}
	}
}

// longWords returns words of up to 80 letters, some of them with much in common.
func longWords(letters int) [][]int {
	var words [][]int
	for _, length := range []int{17, 79, 80} {
		for step := 1; step <= 2; step++ {
			w := make([]int, length)
			for i := range w {
				w[i] = (i*i*step + i/3 + step) % 11 % letters
			}
			mirrored, err := word.Mirror(letters, w)
			if err != nil {
				panic(err)
			}
			words = append(words, w, mirrored)
		}
	}
	return words
}

// 5.1: both functions do for long words what the words say.
func TestLongWords(t *testing.T) {
	for _, letters := range []int{1, 2, 3, 6} {
		words := longWords(letters)
		for i, v := range words {
			for _, w := range words[:i+1] {
				checkPair(t, letters, v, w)
			}
		}
	}
}

// 5.1: the errors of both functions are those of word.Check for v, then for w.
func TestBothChecked(t *testing.T) {
	for _, a := range sample.Checks() {
		for _, b := range sample.Checks() {
			want := wrongOf(a.Letters, a.Word, b.Word)
			distance, err := near.Distance(a.Letters, a.Word, b.Word)
			if plain.Told(err) != want || err != nil && distance != 0 {
				t.Errorf("%s, %s: Distance = %d, %v, want %v", a.Name, b.Name, distance, err, want)
			}
			common, err := near.Common(a.Letters, a.Word, b.Word)
			if plain.Told(err) != want || err != nil && len(common) > 0 {
				t.Errorf("%s, %s: Common = %v, %v, want %v", a.Name, b.Name, common, err, want)
			}
		}
	}
}

// 5.1: the first word's error is returned where both words have one, and the second word's where only it has.
func TestFirstError(t *testing.T) {
	long, bad := sample.Repeated(81, 0), []int{2}
	cases := []struct {
		letters int
		v, w    []int
		want    api.Errno
	}{
		{2, long, bad, api.ErrFull},
		{2, bad, long, api.ErrRange},
		{2, long, nil, api.ErrFull},
		{2, nil, long, api.ErrFull},
		{2, bad, nil, api.ErrRange},
		{2, nil, bad, api.ErrRange},
		{0, long, long, api.ErrRange},
		{7, long, long, api.ErrRange},
		{0, nil, nil, api.ErrRange},
		{3, bad, long, api.ErrFull},
		{3, bad, bad, api.OK},
	}
	for _, c := range cases {
		if _, err := near.Distance(c.letters, c.v, c.w); plain.Told(err) != c.want {
			t.Errorf("Distance(%d, %v, %v) = %v, want %v", c.letters, c.v, c.w, err, c.want)
		}
		if _, err := near.Common(c.letters, c.v, c.w); plain.Told(err) != c.want {
			t.Errorf("Common(%d, %v, %v) = %v, want %v", c.letters, c.v, c.w, err, c.want)
		}
	}
}
