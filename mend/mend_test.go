package mend_test

import (
	"math/bits"
	"slices"
	"strings"
	"testing"

	"stileward/api"
	"stileward/back"
	"stileward/dfa"
	"stileward/form"
	"stileward/mend"
	"stileward/near"
	"stileward/nfa"
	"stileward/plain"
	"stileward/reach"
	"stileward/sample"
	"stileward/small"
	"stileward/word"
)

// check demands of both functions some answers.
func check(t *testing.T, d api.Dfa, w []int, want answers) {
	t.Helper()
	if got, err := mend.Cost(d, w); got != want.cost || plain.Told(err) != want.noCost {
		t.Errorf("Cost(%v, %v) = %d, %v, want %d, %v", d, w, got, err, want.cost, want.noCost)
	}
	cost := want.cost
	if want.noMended != api.OK {
		cost = 0
	}
	v, got, err := mend.Mend(d, w)
	if !slices.Equal(v, want.mended) || got != cost || plain.Told(err) != want.noMended {
		t.Errorf("Mend(%v, %v) = %v, %d, %v, want %v, %d, %v", d, w, v, got, err, want.mended, cost, want.noMended)
	}
}

// checkSlowly demands of the slow way the same answers.
func checkSlowly(t *testing.T, d api.Dfa, w []int, want answers) {
	t.Helper()
	slow := slowly(d, w)
	if slow.cost != want.cost || !slices.Equal(slow.mended, want.mended) || slow.noCost != want.noCost || slow.noMended != want.noMended {
		t.Errorf("for %v and %v, the slow way finds %v, want %v", d, w, slow, want)
	}
}

// among returns the automaton of three letters that accepts some words, which are written as digits.
func among(words ...string) api.Dfa { return sample.Among(3, words...) }

// noZeros accepts the words of three letters without two 0s one behind the other.
func noZeros() api.Dfa {
	return api.Dfa{Letters: 3, Next: [][]int{{1, 0, 0}, {2, 0, 0}, {2, 2, 2}}, Final: sample.Pluses("++-")}
}

// closed accepts the words of three letters in which there is a 1 behind each 0. It starts at state 1.
func closed() api.Dfa {
	return api.Dfa{Letters: 3, Start: 1, Next: [][]int{{0, 1, 0}, {0, 1, 1}}, Final: sample.Pluses("-+")}
}

// twins accepts the words of two letters that are of the pairs 00 and 11.
func twins() api.Dfa {
	return api.Dfa{Letters: 2, Next: [][]int{{1, 2}, {0, 3}, {3, 0}, {3, 3}}, Final: sample.Pluses("+---")}
}

// example is an automaton, a word, and what it costs to mend it and becomes of it, both words as digits.
type example struct {
	name   string
	d      api.Dfa
	w      string
	cost   int
	mended string
}

// ofOneWord are examples with one word that is near.
func ofOneWord() []example {
	return []example{
		{"an accepted word", among("012", "0121"), "012", 0, "012"},
		{"the empty word", among("", "0"), "", 0, ""},
		{"an accepted word, though others precede it", noZeros(), "210120", 0, "210120"},
		{"a letter inserted first", among("012"), "12", 1, "012"},
		{"a letter inserted in between", among("012"), "02", 1, "012"},
		{"a letter inserted last", among("012"), "01", 1, "012"},
		{"all letters inserted", among("012"), "", 3, "012"},
		{"a letter removed first", among("12"), "012", 1, "12"},
		{"a letter removed in between", among("02"), "012", 1, "02"},
		{"a letter removed last", among("01"), "012", 1, "01"},
		{"all letters removed", among(""), "012", 3, ""},
		{"a letter replaced first", among("210"), "010", 1, "210"},
		{"a letter replaced in between", among("210"), "220", 1, "210"},
		{"a letter replaced last", among("210"), "211", 1, "210"},
		{"all letters replaced", among("210"), "122", 3, "210"},
		{"one removed and one inserted", among("0121"), "1210", 2, "0121"},
		{"one of each", among("00112201"), "20021220", 3, "00112201"},
	}
}

// ofFewWords are examples in which one of a few words is nearer, or precedes others as near.
func ofFewWords() []example {
	return []example{
		{"the nearer word is longer", among("", "111"), "11", 1, "111"},
		{"the nearer word is greater", among("000", "222"), "122", 1, "222"},
		{"the shorter of words as near", among("", "00"), "0", 1, ""},
		{"the shorter of words as near, though greater", among("2", "002"), "02", 1, "2"},
		{"the shorter of three", among("21", "100", "1121"), "121", 1, "21"},
		{"the one as long of words as near", among("012", "0112"), "112", 1, "012"},
		{"removed rather than replaced", among("0", "02"), "01", 1, "0"},
		{"replaced rather than inserted", among("010", "10"), "00", 1, "10"},
		{"two removed rather than one of each", among("2", "102"), "012", 2, "2"},
		{"the smaller of words as long", among("0", "1", "2"), "", 1, "0"},
		{"the smaller first letter", among("10", "01"), "11", 1, "01"},
		{"the smaller first letter behind which all is left", among("02", "12", "21"), "22", 1, "02"},
		{"the smaller first letter, though the word's own one would do", among("21", "12"), "22", 1, "12"},
		{"the smaller second letter", among("011", "002", "111"), "012", 1, "002"},
		{"the smaller last letter", among("0121", "0120"), "0122", 1, "0120"},
		{"a small first letter that leads too far", among("022", "11"), "01", 1, "11"},
		{"a small first letter that leads to a longer word", among("0212", "222"), "212", 1, "222"},
	}
}

// ofManyWords are examples with accepted words of any length.
func ofManyWords() []example {
	return []example{
		{"no two 0s", noZeros(), "1001", 1, "101"},
		{"no three 0s", noZeros(), "000", 1, "010"},
		{"no four 0s", noZeros(), "0000", 2, "010"},
		{"no five 0s", noZeros(), "00000", 2, "01010"},
		{"a 1 behind the last 0", closed(), "120", 1, "12"},
		{"a 1 behind the last of some 0s", closed(), "1200", 1, "1201"},
		{"a 1 behind the last 0, and others behind it", closed(), "1022", 1, "122"},
		{"a 1 behind the 0s, and others behind it", closed(), "10020", 1, "10021"},
		{"a 1 behind the 0s, as early as can be", closed(), "0022", 1, "0012"},
		{"twins", twins(), "0011", 0, "0011"},
		{"a twin too much", twins(), "001", 1, "00"},
		{"no twins", twins(), "0101", 2, "00"},
		{"torn twins", twins(), "0110", 2, "00"},
		{"from where no word leads to", sample.Started(twins(), 1), "1", 1, "0"},
	}
}

// 18.1: the smallest number of edits to an accepted word, and the first of the words so near.
func TestExamples(t *testing.T) {
	for _, c := range slices.Concat(ofOneWord(), ofFewWords(), ofManyWords()) {
		t.Run(c.name, func(t *testing.T) {
			want := answers{cost: c.cost, mended: sample.Digits(c.mended)}
			checkSlowly(t, c.d, sample.Digits(c.w), want)
			check(t, c.d, sample.Digits(c.w), want)
		})
	}
}

// 18.1: if no word is accepted there is none to be found, and no cost; words that lead from
// elsewhere do not count.
func TestNoWord(t *testing.T) {
	wide := sample.NoneFinal(sample.Mixed(1, 40, 6))
	away := api.Dfa{Letters: 2, Next: [][]int{{0, 1}, {1, 0}, {2, 1}}, Final: sample.Pluses("--+")}
	for _, d := range []api.Dfa{sample.NoneFinal(sample.Ring(0, 1)), sample.NoneFinal(twins()), wide, away, sample.Started(away, 1), sample.Started(twins(), 3)} {
		for _, length := range []int{0, 1, 2, 79, 80} {
			check(t, d, sample.MixedWord(1, length, d.Letters), answers{noCost: api.ErrNone, noMended: api.ErrNone})
		}
	}
	check(t, sample.Started(away, 2), []int{1}, answers{cost: 1})
}

// 18.1: of words of one letter, the nearest accepted length counts, and of two the shorter one,
// and one of more than 80 letters is ErrFull for Mend alone.
func TestLengths(t *testing.T) {
	for around := 1; around <= 40; around++ {
		for _, before := range []int{0, 1, 40 - around} {
			if before+around > 40 {
				continue
			}
			d := sample.Ring(before, around)
			for n := range 81 {
				best := before + around - 1
				for length := best; length <= 160; length += around {
					if max(n-length, length-n) < max(n-best, best-n) {
						best = length
					}
				}
				want := answers{cost: max(n-best, best-n), mended: sample.Repeated(best, 0)}
				if best > 80 {
					want.mended, want.noMended = nil, api.ErrFull
				}
				check(t, d, sample.Repeated(n, 0), want)
			}
		}
	}
}

// 18.1: what is mended may have 80 letters, but not 81.
func TestFull(t *testing.T) {
	ring := func(rest, around int) api.Dfa {
		return sample.WithFinals(sample.Ring(0, around), strings.Repeat("-", rest)+"+"+strings.Repeat("-", around-rest-1))
	}
	cases := []struct {
		rest, around, n, cost, length int
	}{
		{0, 40, 80, 0, 80},
		{0, 40, 61, 19, 80},
		{0, 40, 60, 20, 40},
		{1, 40, 80, 1, 81},
		{1, 40, 62, 19, 81},
		{1, 40, 61, 20, 41},
		{19, 40, 80, 19, 99},
		{20, 40, 80, 20, 60},
		{21, 40, 80, 19, 61},
		{39, 40, 80, 1, 79},
		{2, 3, 80, 0, 80},
		{2, 3, 79, 1, 80},
		{0, 3, 79, 1, 78},
		{0, 3, 80, 1, 81},
		{1, 3, 80, 1, 79},
		{1, 4, 80, 1, 81},
		{2, 4, 80, 2, 78},
		{3, 4, 80, 1, 79},
	}
	for _, c := range cases {
		want := answers{cost: c.cost, mended: sample.Repeated(c.length, 0)}
		if c.length > 80 {
			want.mended, want.noMended = nil, api.ErrFull
		}
		check(t, ring(c.rest, c.around), sample.Repeated(c.n, 0), want)
	}
}

// 18.1: for small automata, all of some sizes and every few of others, and all short words,
// the answers are what the distances of all accepted words say.
func TestAll(t *testing.T) {
	for _, c := range []struct{ states, letters, longest, step int }{
		{1, 1, 3, 1}, {1, 3, 2, 1}, {2, 1, 4, 1}, {2, 2, 3, 1}, {2, 3, 2, 1}, {3, 1, 5, 1}, {3, 2, 3, 7}, {4, 1, 5, 1}, {3, 3, 2, 101},
	} {
		// A word is not farther than the first accepted one from it, and no nearer one is longer by more than that.
		all := sample.Words(c.longest+max(c.longest, c.states-1), c.letters)
		words := sample.Words(c.longest, c.letters)
		near := nearest(c.letters, all, words)
		dfas := sample.AllDfas(c.states, c.letters)
		for i := 0; i < len(dfas); i += c.step {
			for at, w := range words {
				want := answers{noCost: api.ErrNone, noMended: api.ErrNone}
				for _, m := range near[at] {
					if sample.Accepts(dfas[i], m.word) {
						want = answers{cost: m.edits, mended: m.word}
						break
					}
				}
				check(t, dfas[i], w, want)
			}
		}
	}
}

// nearest returns for each of some words all words in the order in which they are to be taken.
func nearest(letters int, all, words [][]int) [][]made {
	var lists [][]made
	for _, w := range words {
		var list []made
		for _, v := range all {
			m, _ := nearestOf(letters, [][]int{v}, w)
			list = append(list, m)
		}
		slices.SortStableFunc(list, func(m, n made) int { return m.edits - n.edits })
		lists = append(lists, list)
	}
	return lists
}

// several returns automata of all sizes. Most of them accept words.
func several(seed uint64) []api.Dfa {
	states, letters := 1+int(seed)%40, 1+int(seed)/40%6
	return []api.Dfa{sample.Mixed(seed, states, letters), sample.OneFinal(seed, states, letters), sparse(seed, states, letters)}
}

// sparse returns an automaton in which one letter leads on from each state to the next one,
// and most others lead back to the first one. It accepts what leads to the last one.
func sparse(seed uint64, states, letters int) api.Dfa {
	d := sample.OneFinal(uint64(states)-1, states, letters)
	below := sample.Below(seed)
	d.Start = 0
	for s, row := range d.Next {
		for a := range row {
			row[a] = max(0, below(3*states)-2*states)
		}
		row[below(letters)] = min(s+1, states-1)
	}
	return d
}

// 18.1: for automata of all sizes and words of all lengths, the functions do what the words of the chapter say.
func TestMixed(t *testing.T) {
	costs, lengths := map[int]int{}, map[int]int{}
	for seed := range uint64(240) {
		for _, d := range several(seed) {
			w := sample.MixedWord(seed, int(seed)*7%81, d.Letters)
			want := slowly(d, w)
			check(t, d, w, want)
			if want.noMended == api.OK {
				costs[bits.Len(uint(want.cost))]++
				lengths[(len(want.mended)+9)/10]++
			}
		}
	}
	for n := range 5 {
		if costs[n] < 5 {
			t.Errorf("costs of as many bits are as often as %v", costs)
		}
	}
	for tens := range 9 {
		if lengths[tens] < 10 {
			t.Errorf("as many tens of letters are as often as %v", lengths)
		}
	}
}

// 18.1: the mended word is accepted and as far as its cost says, and it needs no mending.
func TestMended(t *testing.T) {
	mended := 0
	for seed := range uint64(960) {
		for _, d := range several(seed) {
			w := sample.MixedWord(seed, int(seed)*11%81, d.Letters)
			v, cost, err := mend.Mend(d, w)
			if err != nil {
				continue
			}
			mended++
			is, wrong := dfa.Accepts(d, v)
			if distance, err := near.Distance(d.Letters, w, v); !is || wrong != nil || distance != cost || err != nil {
				t.Errorf("Mend(%v, %v) = %v, %d, accepted: %v, %v, and as far as %d, %v", d, w, v, cost, is, wrong, distance, err)
			}
			check(t, d, v, answers{mended: v})
		}
	}
	if mended < 2000 {
		t.Errorf("%d words are mended", mended)
	}
}

// 18.1: a word that is accepted costs nothing, and no other word does; one edit changes the cost by no more than one.
func TestOneEdit(t *testing.T) {
	for seed := range uint64(240) {
		for _, d := range several(seed) {
			w := sample.MixedWord(seed, 1+int(seed)*13%79, d.Letters)
			cost, err := mend.Cost(d, w)
			if is, wrong := dfa.Accepts(d, w); err == nil && is != (cost == 0) || wrong != nil {
				t.Errorf("Cost(%v, %v) = %d, but it is accepted: %v, %v", d, w, cost, is, wrong)
			}
			at := int(seed) % len(w)
			for _, v := range [][]int{
				sample.Replaced(w, at, int(seed)/3%d.Letters),
				slices.Insert(slices.Clone(w), at, int(seed)/5%d.Letters),
				slices.Delete(slices.Clone(w), at, at+1),
			} {
				other, wrong := mend.Cost(d, v)
				if other < cost-1 || other > cost+1 || (err == nil) != (wrong == nil) {
					t.Errorf("Cost(%v, ..) of %v is %d, %v, and of %v %d, %v", d, w, cost, err, v, other, wrong)
				}
			}
		}
	}
}

// 18.1: of a few accepted words, the nearest one is found, also for a word that is much longer.
func TestFewWords(t *testing.T) {
	for seed := range uint64(400) {
		below := sample.Below(seed)
		var words [][]int
		var texts []string
		for range 1 + seed%6 {
			v := sample.MixedWord(seed+uint64(len(words))*1000, below(38/(1+int(seed)%6)+1), 3)
			words = append(words, v)
			texts = append(texts, digits(v))
		}
		slices.SortFunc(words, func(v, w []int) int {
			if len(v) != len(w) {
				return len(v) - len(w)
			}
			return slices.Compare(v, w)
		})
		for _, length := range []int{0, 1, 2, 5, 10, 20, 38, 79, 80} {
			w := sample.MixedWord(seed+500, length, 3)
			check(t, among(texts...), w, answersOf(3, words, w))
		}
	}
}

// digits is a word as its digits.
func digits(w []int) string {
	text := ""
	for _, a := range w {
		text += string(rune('0' + a))
	}
	return text
}

// 18.1: words may have 80 letters that all need an edit or none, and lead through all 40 states.
func TestLongWays(t *testing.T) {
	zeros, ones := sample.Repeated(80, 0), sample.Repeated(80, 1)
	allZeros := api.Dfa{Letters: 2, Next: [][]int{{0, 1}, {1, 1}}, Final: sample.Pluses("+-")}
	// From both of the others, 39 times the letter 1 leads to the last state, and behind it lead all
	// letters back to the start, or to itself.
	back := api.Dfa{Letters: 2, Final: make([]bool, 40)}
	for s := range 40 {
		back.Next = append(back.Next, []int{0, (s + 1) % 40})
	}
	back.Final[39] = true
	stay := sample.CloneDfa(back)
	stay.Next[39][1] = 39
	cases := []struct {
		name   string
		d      api.Dfa
		w      []int
		cost   int
		mended []int
	}{
		{"no letter replaced", allZeros, zeros, 0, zeros},
		{"all letters removed", allZeros, ones, 80, nil},
		{"all letters but one removed", allZeros, sample.Replaced(ones, 40, 0), 79, zeros[:1]},
		{"all letters removed for the empty word", among(""), zeros, 80, nil},
		{"39 letters there", stay, ones, 0, ones},
		{"39 letters inserted", stay, nil, 39, ones[:39]},
		{"20 letters inserted", stay, ones[:19], 20, ones[:39]},
		{"39 letters replaced, and 41 left", stay, zeros, 39, slices.Concat(zeros[:41], ones[:39])},
		{"39 letters twice", back, ones[:79], 0, ones[:79]},
		{"39 letters twice, and one letter more", back, ones, 1, ones[:79]},
		{"39 letters once, and a 0 and others before them", back, ones[:60], 1, sample.Replaced(ones[:60], 20, 0)},
		{"39 letters twice, and 19 letters less, or once, and a 0", back, ones[:59], 1, sample.Replaced(ones[:59], 19, 0)},
	}
	for _, c := range cases {
		want := answers{cost: c.cost, mended: c.mended}
		if c.cost <= 20 {
			checkSlowly(t, c.d, c.w, want)
		}
		check(t, c.d, c.w, want)
	}
}

// 18.1: each letter counts, be it the only one that is accepted or the only one that is not.
func TestLetters(t *testing.T) {
	for letters := 1; letters <= 6; letters++ {
		for letter := range letters {
			// The letter leads to state 1 and all others to state 2, and more letters to state 3.
			d := api.Dfa{Letters: letters, Next: [][]int{sample.Replaced(sample.Repeated(letters, 2), letter, 1)}}
			for range 3 {
				d.Next = append(d.Next, sample.Repeated(letters, 3))
			}
			only, others := [][]int{{letter}}, [][]int{}
			for a := range letters {
				if a != letter {
					others = append(others, []int{a})
				}
			}
			for _, w := range sample.Words(2, letters) {
				check(t, sample.WithFinals(d, "-+--"), w, answersOf(letters, only, w))
				check(t, sample.WithFinals(d, "--+-"), w, answersOf(letters, others, w))
			}
		}
	}
}

// 18.1: the answers do not depend on how an automaton accepts its words.
func TestMinimal(t *testing.T) {
	for seed := range uint64(480) {
		for _, d := range several(seed) {
			minimal, err := small.Minimal(d)
			if err != nil {
				t.Fatalf("Minimal(%v) = %v", d, err)
			}
			w := sample.MixedWord(seed, int(seed)%81, d.Letters)
			v, cost, err := mend.Mend(d, w)
			of, wrong := mend.Cost(d, w)
			check(t, minimal, w, answers{cost: of, mended: v, noCost: plain.Told(wrong), noMended: plain.Told(err)})
			if err == nil && of != cost {
				t.Errorf("Cost(%v, %v) = %d, but of Mend it is %d", d, w, of, cost)
			}
		}
	}
}

// 18.1: the empty word becomes the first one of all.
func TestEmptyWord(t *testing.T) {
	for seed := range uint64(960) {
		for _, d := range several(seed) {
			first, err := reach.First(d)
			wrong := plain.Told(err)
			check(t, d, nil, answers{cost: len(first), mended: first, noCost: wrong, noMended: wrong})
		}
	}
}

// 18.1: if one of two automata has to accept a word, it becomes the better one of what it becomes for each of them.
func TestEither(t *testing.T) {
	for seed := range uint64(960) {
		letters := 1 + int(seed)%6
		a := sample.Mixed(seed, 1+int(seed)%5, letters)
		b := sample.OneFinal(seed+1, 1+int(seed)/5%7, letters)
		either, err := dfa.Either(a, b)
		if err != nil {
			t.Fatalf("Either(%v, %v) = %v", a, b, err)
		}
		w := sample.MixedWord(seed, int(seed)%79, letters)
		want := answers{noCost: api.ErrNone, noMended: api.ErrNone}
		for _, d := range []api.Dfa{a, b} {
			v, cost, err := mend.Mend(d, w)
			if err == nil && (want.noCost != api.OK || made{cost, v}.before(made{want.cost, want.mended})) {
				want = answers{cost: cost, mended: v}
			}
		}
		check(t, either, w, want)
	}
}

// 18.1: what is mended from behind costs as much, and is as long.
func TestMirror(t *testing.T) {
	for seed := range uint64(960) {
		letters := 1 + int(seed)%6
		d := sample.Mixed(seed, 1+int(seed)%5, letters)
		of, err := nfa.Of(d)
		if err != nil {
			t.Fatalf("Of(%v) = %v", d, err)
		}
		of, _ = nfa.Mirror(of)
		mirror, err := nfa.Make(of)
		if err != nil {
			t.Fatalf("Make(%v) = %v", of, err)
		}
		w := sample.MixedWord(seed, int(seed)%79, letters)
		behind, _ := word.Mirror(letters, w)
		v, cost, err := mend.Mend(d, w)
		back, costBack, wrong := mend.Mend(mirror, behind)
		if len(v) != len(back) || cost != costBack || plain.Told(err) != plain.Told(wrong) {
			t.Errorf("Mend(%v, %v) = %v, %d, %v, but mirrored %v, %d, %v", d, w, v, cost, err, back, costBack, wrong)
		}
	}
}

// 18.1: words for which formulas have to hold.
func TestFormulas(t *testing.T) {
	cases := []struct {
		text   string
		w      string
		cost   int
		mended string
		wrong  api.Errno
	}{
		{"t", "0120", 0, "0120", api.OK},
		{"f", "0120", 0, "", api.ErrNone},
		{"[1]", "", 1, "1", api.OK},
		{"[1]", "0", 1, "1", api.OK},
		{"[1]", "02", 1, "12", api.OK},
		{"Wf", "0120", 4, "", api.OK},
		{"WWf", "0120", 3, "0", api.OK},
		{"XXt", "", 2, "00", api.OK},
		{"tU[1]", "0202", 1, "0102", api.OK},
		{"fR[12]", "0102", 2, "12", api.OK},
		{"fR(![0]|X[1])", "2001", 1, "201", api.OK},
		{"fR(![0]|X(tU[1]))", "1020", 1, "1021", api.OK},
		{"fR([12]|X([01]U[1]))", "0020010", 2, "00001", api.OK},
		{"(tU[1])&(fR[02])", "0201", 0, "", api.ErrNone},
		{"tU([0]&X([1]&X[2]))", "0202", 1, "01202", api.OK},
	}
	for _, c := range cases {
		f, err := form.Read(3, c.text)
		d, wrong := back.Make(3, f)
		if err != nil || wrong != nil {
			t.Fatalf("%q: Read = %v, Make = %v", c.text, err, wrong)
		}
		want := answers{cost: c.cost, mended: sample.Digits(c.mended), noCost: c.wrong, noMended: c.wrong}
		check(t, d, sample.Digits(c.w), want)
	}
}

// 18.1: the errors of the automaton come first, then those of the word, and with an error there is nothing else.
func TestErrors(t *testing.T) {
	for _, a := range sample.DfaChecks() {
		for _, b := range sample.Checks() {
			for _, d := range []api.Dfa{a.Dfa, sample.NoneFinal(a.Dfa)} {
				want := slowly(d, b.Word)
				if a.Want != api.OK && want.noCost != a.Want {
					t.Fatalf("%s: the slow way finds %v, want %v", a.Name, want.noCost, a.Want)
				}
				check(t, d, b.Word, want)
			}
		}
	}
}

// 18.1: of several errors, the first one is returned.
func TestFirstError(t *testing.T) {
	short, outside := sample.Ring(0, 3), sample.Started(sample.Ring(0, 3), 3)
	short.Final = nil
	none, one := sample.NoneFinal(sample.Ring(0, 40)), sample.Ring(1, 1)
	over := sample.WithFinals(sample.Ring(0, 40), "-+"+strings.Repeat("-", 38))
	long, bad := sample.Repeated(81, 0), []int{1}
	cases := []struct {
		d              api.Dfa
		w              []int
		cost, noMended api.Errno
	}{
		{short, long, api.ErrShape, api.ErrShape},
		{short, bad, api.ErrShape, api.ErrShape},
		{sample.NoneFinal(sample.Ring(0, 41)), bad, api.ErrFull, api.ErrFull},
		{outside, long, api.ErrRange, api.ErrRange},
		{sample.NoneFinal(outside), nil, api.ErrRange, api.ErrRange},
		{none, long, api.ErrFull, api.ErrFull},
		{none, sample.Replaced(long, 0, -1), api.ErrFull, api.ErrFull},
		{none, bad, api.ErrRange, api.ErrRange},
		{none, sample.Replaced(long[:80], 79, 1), api.ErrRange, api.ErrRange},
		{none, long[:80], api.ErrNone, api.ErrNone},
		{none, nil, api.ErrNone, api.ErrNone},
		{one, long, api.ErrFull, api.ErrFull},
		{one, bad, api.ErrRange, api.ErrRange},
		{one, long[:80], api.OK, api.OK},
		{over, long, api.ErrFull, api.ErrFull},
		{over, sample.Replaced(long[:80], 79, 1), api.ErrRange, api.ErrRange},
		{over, long[:80], api.OK, api.ErrFull},
		{over, long[:61], api.OK, api.OK},
	}
	for _, c := range cases {
		cost, err := mend.Cost(c.d, c.w)
		if plain.Told(err) != c.cost || err != nil && cost != 0 {
			t.Errorf("Cost(%v, %v) = %d, %v, want %v", c.d, c.w, cost, err, c.cost)
		}
		v, cost, err := mend.Mend(c.d, c.w)
		if plain.Told(err) != c.noMended || err != nil && (cost != 0 || len(v) > 0) {
			t.Errorf("Mend(%v, %v) = %v, %d, %v, want %v", c.d, c.w, v, cost, err, c.noMended)
		}
	}
}
