package word_test

import (
	"maps"
	"math"
	"slices"
	"testing"

	"stileward/api"
	"stileward/plain"
	"stileward/sample"
	"stileward/word"
)

// noLetters are numbers that are letters of no word.
var noLetters = []int{math.MinInt, -1 << 32, -256, -6, -1, 6, 7, 64, 256, 1 << 32, math.MaxInt}

// 4.1: what Check finds, and what it finds first.
func TestCheck(t *testing.T) {
	for _, c := range sample.Checks() {
		if err := word.Check(c.Letters, c.Word); plain.Told(err) != c.Want {
			t.Errorf("%s: Check(%d, %v) = %v, want %v", c.Name, c.Letters, c.Word, err, c.Want)
		}
	}
}

// 4.1: a number that is no letter is found wherever it is.
func TestCheckPlaces(t *testing.T) {
	for letters := 1; letters <= 6; letters++ {
		for _, length := range []int{1, 2, 7, 80} {
			for at := range length {
				for _, number := range append(noLetters, letters) {
					w := sample.Replaced(sample.Repeated(length, letters-1), at, number)
					if err := word.Check(letters, w); plain.Told(err) != api.ErrRange {
						t.Fatalf("Check(%d, %v) = %v, want ErrRange", letters, w, err)
					}
				}
			}
		}
	}
}

// 4.1: a set of letters is a number that is the sum of the values of some letters, and it has these.
func TestSets(t *testing.T) {
	for letters := 1; letters <= 6; letters++ {
		sums := map[int]bool{0: true}
		for letter := range letters {
			for set := range maps.Clone(sums) {
				sums[set+1<<letter] = true
			}
		}
		for set := -130; set <= 130; set++ {
			if got := word.IsSet(letters, set); got != sums[set] {
				t.Errorf("IsSet(%d, %d) = %v", letters, set, got)
			}
		}
		for set := range sums {
			sum := 0
			for letter := range letters {
				if word.Has(set, letter) {
					sum += 1 << letter
				}
			}
			if sum != set {
				t.Errorf("the letters of %d are those of %d", set, sum)
			}
			for _, number := range append(noLetters, letters) {
				if word.Has(set, number) {
					t.Errorf("%d has %d", set, number)
				}
			}
		}
	}
}

// 4.1: there is no set of numbers that are no letters, and none of no alphabet.
func TestNoSets(t *testing.T) {
	for _, number := range []int{math.MinInt, math.MinInt + 1, -1 << 32, 1 << 32, 1<<32 + 1, 1 << 62, math.MaxInt} {
		for letters := 1; letters <= 6; letters++ {
			if word.IsSet(letters, number) {
				t.Errorf("%d is a set of %d letters", number, letters)
			}
		}
		for _, set := range []int{-1, 0, 1, number} {
			if word.IsSet(number, set) {
				t.Errorf("%d is a set of %d letters", set, number)
			}
		}
	}
	for _, letters := range []int{-64, -1, 0, 7, 63, 64} {
		if word.IsSet(letters, 0) || word.IsSet(letters, 1) {
			t.Errorf("there are sets of %d letters", letters)
		}
	}
}

// 4.1: Only leaves the letters of the set.
func TestOnly(t *testing.T) {
	all := []int{5, 0, 4, 1, 3, 2, 2, 5, 0}
	cases := []struct {
		letters int
		w       []int
		set     int
		want    []int
	}{
		{1, nil, 0, nil},
		{1, nil, 1, nil},
		{6, []int{}, 63, nil},
		{1, []int{0, 0}, 0, nil},
		{1, []int{0, 0}, 1, []int{0, 0}},
		{2, []int{0, 0, 0, 1, 1, 0, 0}, 2, []int{1, 1}},
		{2, []int{0, 0, 0, 1, 1, 0, 0}, 1, []int{0, 0, 0, 0, 0}},
		{2, []int{1, 0, 1}, 3, []int{1, 0, 1}},
		{3, []int{0, 2, 1, 1, 2}, 3, []int{0, 1, 1}},
		{3, []int{0, 2, 1, 1, 2}, 5, []int{0, 2, 2}},
		{3, []int{0, 2, 1, 1, 2}, 6, []int{2, 1, 1, 2}},
		{6, []int{0, 2, 1, 1, 2}, 56, nil},
		{6, all, 0, nil},
		{6, all, 1, []int{0, 0}},
		{6, all, 32, []int{5, 5}},
		{6, all, 21, []int{0, 4, 2, 2, 0}},
		{6, all, 42, []int{5, 1, 3, 5}},
		{6, all, 62, []int{5, 4, 1, 3, 2, 2, 5}},
		{6, all, 63, all},
		{6, sample.Repeated(80, 5), 32, sample.Repeated(80, 5)},
		{6, sample.Repeated(80, 5), 31, nil},
	}
	for _, c := range cases {
		got, err := word.Only(c.letters, c.w, c.set)
		if !slices.Equal(got, c.want) || err != nil {
			t.Errorf("Only(%d, %v, %d) = %v, %v, want %v", c.letters, c.w, c.set, got, err, c.want)
		}
	}
}

// 4.1: the errors of Only are those of Check, whatever the set.
func TestOnlyCheck(t *testing.T) {
	for _, c := range sample.Checks() {
		for _, set := range []int{0, 1, -1, 64, math.MinInt, math.MaxInt} {
			want := c.Want
			if want == api.OK && (set < 0 || set > 1) {
				want = api.ErrRange
			}
			got, err := word.Only(c.Letters, c.Word, set)
			if plain.Told(err) != want || err != nil && len(got) > 0 {
				t.Errorf("%s: Only(%d, %v, %d) = %v, %v, want %v", c.Name, c.Letters, c.Word, set, got, err, want)
			}
		}
	}
}

// 4.1: a set has no number but those of the letters.
func TestOnlySets(t *testing.T) {
	for letters := 1; letters <= 6; letters++ {
		w := []int{0, letters - 1}
		for set := -130; set <= 130; set++ {
			got, err := word.Only(letters, w, set)
			want, wrong := onlySlowly(letters, w, set)
			if !slices.Equal(got, want) || plain.Told(err) != wrong {
				t.Errorf("Only(%d, %v, %d) = %v, %v, want %v, %v", letters, w, set, got, err, want, wrong)
			}
		}
		for _, set := range []int{math.MinInt, math.MinInt + 1, -1 << 32, 1 << 32, 1<<32 + 1, 1 << 62, math.MaxInt} {
			got, err := word.Only(letters, w, set)
			if len(got) > 0 || plain.Told(err) != api.ErrRange {
				t.Errorf("Only(%d, %v, %d) = %v, %v, want ErrRange", letters, w, set, got, err)
			}
		}
	}
}

// 4.1: Only of all short words and all sets does what the words say.
func TestOnlyAll(t *testing.T) {
	for i, longest := range []int{9, 7, 5, 4, 3, 3} {
		letters := i + 1
		for _, w := range sample.Words(longest, letters) {
			for set := range 1 << letters {
				got, err := word.Only(letters, w, set)
				want, _ := onlySlowly(letters, w, set)
				if !slices.Equal(got, want) || err != nil {
					t.Fatalf("Only(%d, %v, %d) = %v, %v, want %v", letters, w, set, got, err, want)
				}
			}
		}
	}
}

// 4.1: Mirror reverses.
func TestMirror(t *testing.T) {
	cases := []struct {
		letters int
		w, want []int
	}{
		{1, nil, nil},
		{6, []int{}, nil},
		{1, []int{0}, []int{0}},
		{6, []int{5}, []int{5}},
		{2, []int{0, 1}, []int{1, 0}},
		{2, []int{0, 1, 1}, []int{1, 1, 0}},
		{3, []int{0, 0, 2, 1, 1}, []int{1, 1, 2, 0, 0}},
		{3, []int{2, 1, 2}, []int{2, 1, 2}},
		{6, []int{0, 1, 2, 3, 4, 5}, []int{5, 4, 3, 2, 1, 0}},
		{2, sample.Replaced(sample.Repeated(80, 0), 0, 1), sample.Replaced(sample.Repeated(80, 0), 79, 1)},
		{2, sample.Replaced(sample.Repeated(80, 0), 79, 1), sample.Replaced(sample.Repeated(80, 0), 0, 1)},
	}
	for _, c := range cases {
		got, err := word.Mirror(c.letters, c.w)
		if !slices.Equal(got, c.want) || err != nil {
			t.Errorf("Mirror(%d, %v) = %v, %v, want %v", c.letters, c.w, got, err, c.want)
		}
	}
}

// 4.1: the errors of Mirror are those of Check.
func TestMirrorCheck(t *testing.T) {
	for _, c := range sample.Checks() {
		got, err := word.Mirror(c.Letters, c.Word)
		if plain.Told(err) != c.Want || err != nil && len(got) > 0 {
			t.Errorf("%s: Mirror(%d, %v) = %v, %v, want %v", c.Name, c.Letters, c.Word, got, err, c.Want)
		}
	}
}

// 4.1: Mirror of all short words, and Mirror of that.
func TestMirrorAll(t *testing.T) {
	for _, w := range sample.Words(7, 3) {
		once, err := word.Mirror(3, w)
		want, _ := mirrorSlowly(3, w)
		if !slices.Equal(once, want) || err != nil {
			t.Fatalf("Mirror(3, %v) = %v, %v, want %v", w, once, err, want)
		}
		if twice, err := word.Mirror(3, once); !slices.Equal(twice, w) || err != nil {
			t.Fatalf("Mirror(3, %v) = %v, %v, want %v", once, twice, err, w)
		}
	}
}

// 4.2: Sub removes none, some or all of the letters of w, and moves none.
func TestSub(t *testing.T) {
	cases := []struct {
		letters int
		v, w    []int
		want    bool
	}{
		{1, nil, nil, true},
		{1, []int{}, nil, true},
		{1, nil, []int{}, true},
		{1, nil, []int{0}, true},
		{1, []int{0}, nil, false},
		{1, []int{0}, []int{0}, true},
		{1, []int{0, 0}, []int{0}, false},
		{1, []int{0, 0}, []int{0, 0, 0}, true},
		{2, []int{1}, []int{0}, false},
		{2, []int{0, 1}, []int{1, 0}, false},
		{2, []int{0, 1}, []int{1, 0, 1}, true},
		{2, []int{0, 1}, []int{0, 0, 1, 1}, true},
		{2, []int{0, 1, 0}, []int{0, 0, 1, 1}, false},
		{2, []int{0, 1, 1}, []int{0, 1}, false},
		{3, []int{0, 0, 2}, []int{0, 1, 2}, false},
		{3, []int{0, 2}, []int{0, 1, 2}, true},
		{3, []int{2, 0}, []int{0, 1, 2}, false},
		{3, []int{0, 1, 2}, []int{0, 1, 2}, true},
		{3, []int{0, 1, 2, 2}, []int{0, 1, 2, 0}, false},
		{3, []int{0, 2, 1}, []int{0, 1, 2, 0, 1}, true},
		{6, []int{5, 0, 5}, []int{0, 5, 4, 3, 0, 2, 5, 1}, true},
		{6, []int{5, 0, 5, 5}, []int{0, 5, 4, 3, 0, 2, 5, 1}, false},
		{2, sample.Repeated(80, 1), sample.Repeated(80, 1), true},
		{2, sample.Repeated(80, 1), sample.Repeated(79, 1), false},
		{2, sample.Repeated(79, 1), sample.Repeated(80, 1), true},
		{2, sample.Repeated(79, 1), sample.Replaced(sample.Repeated(80, 1), 40, 0), true},
		{2, sample.Repeated(80, 1), sample.Replaced(sample.Repeated(80, 1), 79, 0), false},
		{2, sample.Repeated(40, 1), slices.Repeat([]int{0, 1}, 40), true},
		{2, sample.Repeated(41, 1), slices.Repeat([]int{0, 1}, 40), false},
		{2, slices.Repeat([]int{1, 0}, 40), slices.Repeat([]int{0, 1}, 40), false},
		{2, slices.Repeat([]int{1, 0}, 39), slices.Repeat([]int{0, 1}, 40), true},
	}
	for _, c := range cases {
		got, err := word.Sub(c.letters, c.v, c.w)
		if got != c.want || err != nil {
			t.Errorf("Sub(%d, %v, %v) = %v, %v, want %v", c.letters, c.v, c.w, got, err, c.want)
		}
	}
}

// 4.2: Less compares lengths, then letters at the first difference.
func TestLess(t *testing.T) {
	cases := []struct {
		letters int
		v, w    []int
		want    bool
	}{
		{1, nil, nil, false},
		{1, nil, []int{}, false},
		{1, []int{}, nil, false},
		{1, nil, []int{0}, true},
		{1, []int{0}, nil, false},
		{1, []int{0}, []int{0}, false},
		{1, []int{0}, []int{0, 0}, true},
		{1, []int{0, 0}, []int{0}, false},
		{2, []int{0}, []int{1}, true},
		{2, []int{1}, []int{0}, false},
		{2, []int{1}, []int{0, 0}, true},
		{2, []int{0, 0}, []int{1}, false},
		{2, []int{0, 1}, []int{1, 0}, true},
		{2, []int{1, 0}, []int{0, 1}, false},
		{2, []int{1, 0}, []int{1, 0}, false},
		{2, []int{1, 1, 0}, []int{1, 1, 1}, true},
		{3, []int{1, 1, 0}, []int{1, 0, 2}, false},
		{3, []int{0, 2, 0}, []int{1, 0, 2}, true},
		{6, []int{5, 5, 5}, []int{0, 0, 0, 0}, true},
		{6, []int{0, 0, 0, 0}, []int{5, 5, 5}, false},
		{6, []int{4, 5, 5}, []int{5, 0, 0}, true},
		{6, []int{5, 0, 0}, []int{4, 5, 5}, false},
		{2, sample.Repeated(80, 1), sample.Repeated(80, 1), false},
		{2, sample.Repeated(79, 1), sample.Repeated(80, 0), true},
		{2, sample.Repeated(80, 0), sample.Repeated(79, 1), false},
		{2, sample.Replaced(sample.Repeated(80, 1), 79, 0), sample.Repeated(80, 1), true},
		{2, sample.Repeated(80, 1), sample.Replaced(sample.Repeated(80, 1), 79, 0), false},
	}
	for _, c := range cases {
		got, err := word.Less(c.letters, c.v, c.w)
		if got != c.want || err != nil {
			t.Errorf("Less(%d, %v, %v) = %v, %v, want %v", c.letters, c.v, c.w, got, err, c.want)
		}
	}
}

// 4.2: the errors of Sub and Less are those of Check for v, then for w.
func TestBothChecked(t *testing.T) {
	for _, a := range sample.Checks() {
		for _, b := range sample.Checks() {
			want := bothSlowly(a.Letters, a.Word, b.Word)
			is, err := word.Sub(a.Letters, a.Word, b.Word)
			if plain.Told(err) != want || err != nil && is {
				t.Errorf("%s, %s: Sub(%d, %v, %v) = %v, %v, want %v", a.Name, b.Name, a.Letters, a.Word, b.Word, is, err, want)
			}
			is, err = word.Less(a.Letters, a.Word, b.Word)
			if plain.Told(err) != want || err != nil && is {
				t.Errorf("%s, %s: Less(%d, %v, %v) = %v, %v, want %v", a.Name, b.Name, a.Letters, a.Word, b.Word, is, err, want)
			}
		}
	}
}

// 4.2: Sub and Less of all pairs of short words; Less follows the order in which sample.Words makes them.
func TestPairs(t *testing.T) {
	for i, longest := range []int{12, 6, 4, 3} {
		letters := i + 1
		words := sample.Words(longest, letters)
		for i, v := range words {
			for j, w := range words {
				is, err := word.Sub(letters, v, w)
				if is != remains(v, w) || err != nil {
					t.Fatalf("Sub(%d, %v, %v) = %v, %v", letters, v, w, is, err)
				}
				is, err = word.Less(letters, v, w)
				if is != (i < j) || err != nil {
					t.Fatalf("Less(%d, %v, %v) = %v, %v", letters, v, w, is, err)
				}
			}
		}
	}
}
