package sample_test

import (
	"errors"
	"maps"
	"slices"
	"strconv"
	"strings"
	"testing"

	"stileward/api"
	"stileward/sample"
)

// Bytes has each byte at its place.
func TestBytes(t *testing.T) {
	all := sample.Bytes()
	if len(all) != 256 {
		t.Fatalf("there are %d bytes", len(all))
	}
	for i := range len(all) {
		if int(all[i]) != i {
			t.Errorf("byte %d is %d", i, all[i])
		}
	}
}

// Texts has each short text once.
func TestTexts(t *testing.T) {
	cases := []struct {
		n     int
		bytes string
		want  []string
	}{
		{-1, "ab", []string{""}},
		{0, "ab", []string{""}},
		{2, "", []string{""}},
		{1, "\x00\xff", []string{"", "\x00", "\xff"}},
		{2, "ab", []string{"", "a", "b", "aa", "ab", "ba", "bb"}},
		{3, "a", []string{"", "a", "aa", "aaa"}},
	}
	for _, c := range cases {
		if got := sample.Texts(c.n, c.bytes); !slices.Equal(got, c.want) {
			t.Errorf("Texts(%d, %q) = %q, want %q", c.n, c.bytes, got, c.want)
		}
	}
}

// Word has a number for each byte.
func TestWord(t *testing.T) {
	if got := sample.Word("\x05\x00\x7f\x80\xff"); !slices.Equal(got, []int{5, 0, 127, -128, -1}) {
		t.Errorf("Word = %v", got)
	}
	if got := sample.Word(""); len(got) != 0 {
		t.Errorf("Word of no byte = %v", got)
	}
}

// Digits has the value of each digit.
func TestDigits(t *testing.T) {
	if got := sample.Digits("0129"); !slices.Equal(got, []int{0, 1, 2, 9}) {
		t.Errorf("Digits = %v", got)
	}
	if got := sample.Digits(""); len(got) != 0 {
		t.Errorf("Digits of no digit = %v", got)
	}
}

// SetOf has the digits of a text, and Has finds them.
func TestSetOf(t *testing.T) {
	cases := []struct {
		text string
		want int
	}{
		{"", 0}, {"0", 1}, {"1", 2}, {"5", 32}, {"02", 5}, {"20", 5}, {"11", 2}, {"012345", 63},
	}
	for _, c := range cases {
		got := sample.SetOf(c.text)
		if got != c.want {
			t.Errorf("SetOf(%q) = %d, want %d", c.text, got, c.want)
		}
		for letter := range 6 {
			want := strings.Contains(c.text, strconv.Itoa(letter))
			if sample.Has(got, letter) != want {
				t.Errorf("Has(%d, %d) = %v, want %v", got, letter, !want, want)
			}
		}
	}
}

// Split has a word for each part of a text.
func TestSplit(t *testing.T) {
	cases := []struct {
		text string
		want []string
	}{
		{"", nil}, {"0", []string{"0"}}, {".", []string{""}}, {"01 . 2 1", []string{"01", "", "2", "1"}},
	}
	for _, c := range cases {
		if got := sample.Split(c.text); !slices.Equal(got, c.want) {
			t.Errorf("Split(%q) = %q, want %q", c.text, got, c.want)
		}
	}
}

// Some has all words, or about every second or third one, in their order.
func TestSome(t *testing.T) {
	all := sample.Texts(9, "01")
	if got := sample.Some(sample.Below(1), all, 1); !slices.Equal(got, all) {
		t.Errorf("Some of all has %d words", len(got))
	}
	for of := 2; of <= 3; of++ {
		got := sample.Some(sample.Below(1), all, of)
		if n := len(all) / of; len(got) < n*8/10 || len(got) > n*12/10 {
			t.Errorf("Some of 1 of %d has %d words of %d", of, len(got), len(all))
		}
		rest := all
		for _, w := range got {
			at := slices.Index(rest, w)
			if at < 0 {
				t.Fatalf("%q is none of all words, or not in their order", w)
			}
			rest = rest[at+1:]
		}
	}
}

// Words has each short word once, the shorter words first.
func TestWords(t *testing.T) {
	cases := []struct {
		n, letters int
		want       [][]int
	}{
		{0, 2, [][]int{{}}},
		{2, 1, [][]int{{}, {0}, {0, 0}}},
		{2, 2, [][]int{{}, {0}, {1}, {0, 0}, {0, 1}, {1, 0}, {1, 1}}},
		{1, 3, [][]int{{}, {0}, {1}, {2}}},
	}
	for _, c := range cases {
		if got := sample.Words(c.n, c.letters); !slices.EqualFunc(got, c.want, slices.Equal) {
			t.Errorf("Words(%d, %d) = %v, want %v", c.n, c.letters, got, c.want)
		}
	}
}

// Repeated has one letter at each place.
func TestRepeated(t *testing.T) {
	for n, want := range [][]int{nil, {5}, {5, 5}, {5, 5, 5}} {
		if got := sample.Repeated(n, 5); !slices.Equal(got, want) {
			t.Errorf("Repeated(%d, 5) = %v, want %v", n, got, want)
		}
	}
}

// Replaced has the number at its place, and leaves the word as it is.
func TestReplaced(t *testing.T) {
	w := []int{0, 1, 2}
	for at, want := range [][]int{{7, 1, 2}, {0, 7, 2}, {0, 1, 7}} {
		if got := sample.Replaced(w, at, 7); !slices.Equal(got, want) {
			t.Errorf("Replaced(%v, %d, 7) = %v, want %v", w, at, got, want)
		}
	}
	if !slices.Equal(w, []int{0, 1, 2}) {
		t.Errorf("the word became %v", w)
	}
}

// Below has the same numbers for the same seed, others for another one, and all that are less than a bound.
func TestBelow(t *testing.T) {
	numbers := func(seed uint64, n int) string {
		below, text := sample.Below(seed), ""
		for range 100 {
			text += " " + strconv.Itoa(below(n))
		}
		return text
	}
	found := map[string]bool{}
	for seed := range uint64(100) {
		if numbers(seed, 7) != numbers(seed, 7) {
			t.Errorf("the numbers of %d are not always the same", seed)
		}
		found[numbers(seed, 7)] = true
	}
	if len(found) != 100 {
		t.Errorf("there are %d lists of numbers of 100 seeds", len(found))
	}
	for n := 1; n <= 10; n++ {
		below, known := sample.Below(3), map[int]bool{}
		for range 100 {
			known[below(n)] = true
		}
		if all := slices.Sorted(maps.Keys(known)); len(all) != n || all[0] != 0 || all[n-1] != n-1 {
			t.Errorf("below %d are %v", n, all)
		}
	}
}

// MixedWord is the same for the same seed, and another one for others, and has all letters.
func TestMixedWord(t *testing.T) {
	found := map[string]bool{}
	for seed := range uint64(100) {
		w := sample.MixedWord(seed, 100, 6)
		if !slices.Equal(w, sample.MixedWord(seed, 100, 6)) {
			t.Errorf("MixedWord(%d, 100, 6) is not always the same", seed)
		}
		text := ""
		known := map[int]bool{}
		for _, a := range w {
			text += strconv.Itoa(a)
			known[a] = true
		}
		found[text] = true
		if all := slices.Sorted(maps.Keys(known)); len(w) != 100 || !slices.Equal(all, []int{0, 1, 2, 3, 4, 5}) {
			t.Errorf("MixedWord(%d, 100, 6) = %v", seed, w)
		}
	}
	if len(found) != 100 {
		t.Errorf("there are %d words of 100 seeds", len(found))
	}
	if w := sample.MixedWord(3, 0, 6); len(w) != 0 {
		t.Errorf("MixedWord(3, 0, 6) = %v", w)
	}
}

// NoLetters has nothing that is a letter of any alphabet.
func TestNoLetters(t *testing.T) {
	for _, a := range sample.NoLetters() {
		if a >= 0 && a < api.MaxLetters {
			t.Errorf("%d is a letter", a)
		}
	}
}

// MixedOffers is the word of MixedWord but for a few numbers, each of which is no letter.
func TestMixedOffers(t *testing.T) {
	found := map[int]int{}
	for seed := range uint64(100) {
		offers, w := sample.MixedOffers(seed, 100, 3), sample.MixedWord(seed, 100, 3)
		if len(offers) != 100 || !slices.Equal(offers, sample.MixedOffers(seed, 100, 3)) {
			t.Fatalf("MixedOffers(%d, 100, 3) = %v, and not always", seed, offers)
		}
		for i, a := range offers {
			if a != w[i] {
				found[a]++
			}
		}
	}
	others := 0
	for a, often := range found {
		others += often
		if !slices.Contains(sample.NoLetters(), a) {
			t.Errorf("%d is put for another number", a)
		}
	}
	if len(found) != len(sample.NoLetters()) || others < 100 || others > 2000 {
		t.Errorf("these numbers are put for others: %v", found)
	}
	if offers := sample.MixedOffers(3, 0, 6); len(offers) != 0 {
		t.Errorf("MixedOffers(3, 0, 6) = %v", offers)
	}
}

// Checks has words with each error of word.Check and with none, each under a name of its own.
func TestChecks(t *testing.T) {
	names := map[string]bool{}
	found := map[api.Errno]int{}
	for _, c := range sample.Checks() {
		if names[c.Name] {
			t.Errorf("two words have the name %q", c.Name)
		}
		names[c.Name] = true
		found[c.Want]++
	}
	if len(found) != 3 || found[api.OK] == 0 || found[api.ErrRange] == 0 || found[api.ErrFull] == 0 {
		t.Errorf("the words have these errors: %v", found)
	}
}

// Roomy has the word with memory behind it, and tells of each change.
func TestRoomy(t *testing.T) {
	for _, w := range [][]int{nil, {0}, {2, 1, 0}} {
		got, intact := sample.Roomy(w)
		if !slices.Equal(got, w) || cap(got) <= len(got) || !intact() {
			t.Fatalf("Roomy(%v) = %v with %d elements of memory, intact: %v", w, got, cap(got), intact())
		}
		memory := got[:2*len(w)+9]
		for i := range memory {
			memory[i]++
			if intact() {
				t.Errorf("a change of element %d of %v is not seen", i, w)
			}
			memory[i]--
		}
	}
}

// Fill writes over a list and what is behind it, and over nothing before it.
func TestFill(t *testing.T) {
	memory := []int{0, 1, 2, 3, 4}
	sample.Fill(memory[1:2:4], 7)
	if !slices.Equal(memory, []int{0, 7, 7, 7, 4}) {
		t.Errorf("the memory became %v", memory)
	}
	sample.Fill(memory[:0], 8)
	if !slices.Equal(memory, []int{8, 8, 8, 8, 8}) {
		t.Errorf("the memory became %v", memory)
	}
	sample.Fill(nil, 9)
}

// Pluses has the value true for a + alone.
func TestPluses(t *testing.T) {
	if got := sample.Pluses("+-\x00+,*\xab+"); !slices.Equal(got, []bool{true, false, false, true, false, false, false, true}) {
		t.Errorf("Pluses = %v", got)
	}
	if got := sample.Pluses(""); len(got) != 0 {
		t.Errorf("Pluses of no byte = %v", got)
	}
}

// SpoilBools tells of memory that two lists share, even of what is behind them.
func TestSpoilBools(t *testing.T) {
	for _, value := range []bool{false, true} {
		memory, other := make([]bool, 6), make([]bool, 6)
		list := memory[1:3:5]
		intact := sample.SpoilBools(list, value)
		if sample.SpoilBools(other, !value); !intact() || memory[0] || memory[5] {
			t.Errorf("behind %v, the memory is %v, and shared: %v", value, memory, !intact())
		}
		for _, shared := range [][]bool{list, list[:0], memory[4:]} {
			intact = sample.SpoilBools(list, value)
			if sample.SpoilBools(shared, !value); intact() {
				t.Errorf("memory that %d values share is not seen", cap(shared))
			}
		}
	}
	if !sample.SpoilBools(nil, true)() {
		t.Errorf("nothing is said to share memory")
	}
}

type wrapped struct{ inner error }

func (w wrapped) Error() string { return "wrapped" }
func (w wrapped) Unwrap() error { return w.inner }

// OnlyErrno wants the one Errno, be it wrapped or not.
func TestOnlyErrno(t *testing.T) {
	cases := []struct {
		err  error
		want api.Errno
		only bool
	}{
		{api.ErrRange, api.ErrRange, true},
		{wrapped{api.ErrRange}, api.ErrRange, true},
		{api.ErrRange, api.ErrFull, false},
		{wrapped{api.ErrRange}, api.ErrFull, false},
		{errors.Join(api.ErrRange, api.ErrFull), api.ErrRange, false},
		{errors.Join(api.ErrRange, api.ErrFull), api.ErrFull, false},
		{errors.New("another"), api.ErrRange, false},
		{nil, api.ErrRange, false},
	}
	for _, c := range cases {
		if sample.OnlyErrno(c.err, c.want) != c.only {
			t.Errorf("OnlyErrno(%v, %v) = %v", c.err, c.want, !c.only)
		}
	}
}
