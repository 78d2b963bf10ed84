package reach_test

import (
	"math"
	"slices"
	"testing"

	"stileward/api"
	"stileward/dfa"
	"stileward/plain"
	"stileward/reach"
	"stileward/sample"
	"stileward/word"
)

// given is an automaton, and what is to be said of it.
type given struct {
	name           string
	d              api.Dfa
	reached, alive []int
	accepts        bool // whether it accepts any word
	first          []int
	trimmed        api.Dfa
	counts         []int // of words of 0, 1, ... letters
}

// islands has states 0, 1 and 6, to which no word leads, and states 3 and 6, from which none is accepted.
func islands() api.Dfa {
	return api.Dfa{
		Letters: 2,
		Start:   2,
		Next:    [][]int{{2, 2}, {1, 1}, {4, 3}, {3, 3}, {3, 5}, {2, 5}, {6, 3}},
		Final:   []bool{false, true, false, false, false, true, false},
	}
}

// crossing comes by one letter and by two to its final state 4.
func crossing() api.Dfa {
	return api.Dfa{
		Letters: 3,
		Start:   0,
		Next:    [][]int{{3, 2, 4}, {1, 1, 1}, {4, 1, 2}, {4, 3, 1}, {0, 4, 1}},
		Final:   []bool{false, false, false, false, true},
	}
}

// rivals comes by two letters to both of its final states, by a greater letter
// first to the one with the smaller number.
func rivals() api.Dfa {
	return api.Dfa{
		Letters: 3,
		Start:   5,
		Next:    [][]int{{0, 0, 0}, {1, 1, 1}, {2, 2, 2}, {0, 1, 0}, {0, 0, 2}, {0, 4, 3}},
		Final:   []bool{false, true, true, false, false, false},
	}
}

// examples are automata with all that is to be said of them.
func examples() []given { return slices.Concat(ofOneLetter(), ofMoreLetters()) }

// ofOneLetter are examples with one word of each length.
func ofOneLetter() []given {
	return []given{
		{
			name: "every word", d: sample.Ring(0, 1),
			reached: []int{0}, alive: []int{0}, accepts: true, first: nil,
			trimmed: sample.Ring(0, 1), counts: []int{1, 1, 1, 1},
		},
		{
			name: "no word", d: sample.NoneFinal(sample.Ring(0, 1)),
			reached: []int{0}, alive: nil,
			trimmed: sample.NoneFinal(sample.Ring(0, 1)), counts: []int{0, 0, 0},
		},
		{
			name: "a ring", d: sample.Ring(2, 3),
			reached: []int{0, 1, 2, 3, 4}, alive: []int{0, 1, 2, 3, 4}, accepts: true, first: []int{0, 0, 0, 0},
			trimmed: sample.Ring(2, 3), counts: []int{0, 0, 0, 0, 1, 0, 0, 1, 0},
		},
		{
			name: "a ring from within", d: sample.Started(sample.Ring(2, 3), 3),
			reached: []int{2, 3, 4}, alive: []int{0, 1, 2, 3, 4}, accepts: true, first: []int{0},
			trimmed: api.Dfa{Letters: 1, Next: [][]int{{1}, {2}, {0}}, Final: []bool{false, true, false}},
			counts:  []int{0, 1, 0, 0, 1, 0, 0, 1},
		},
		{
			name: "final states that no word leads to", d: sample.Dfa(1, 0, "\x00\x01\x00", "\x00\x01\x01"),
			reached: []int{0}, alive: []int{1, 2},
			trimmed: sample.NoneFinal(sample.Ring(0, 1)), counts: []int{0, 0, 0},
		},
	}
}

// ofMoreLetters are examples in which words are ordered by their letters as well.
func ofMoreLetters() []given {
	return []given{
		{
			name: "islands", d: islands(),
			reached: []int{2, 3, 4, 5}, alive: []int{0, 1, 2, 4, 5}, accepts: true, first: []int{0, 1},
			trimmed: api.Dfa{
				Letters: 2,
				Next:    [][]int{{1, 2}, {2, 3}, {2, 2}, {0, 3}},
				Final:   []bool{false, false, false, true},
			},
			counts: []int{0, 0, 1, 1, 1, 2, 3},
		},
		{
			name: "an island", d: sample.Started(islands(), 6),
			reached: []int{3, 6}, alive: []int{0, 1, 2, 4, 5},
			trimmed: api.Dfa{Letters: 2, Next: [][]int{{0, 1}, {1, 1}}, Final: []bool{false, false}},
			counts:  []int{0, 0, 0},
		},
		{
			name: "a shorter word precedes a smaller one", d: crossing(),
			reached: []int{0, 1, 2, 3, 4}, alive: []int{0, 2, 3, 4}, accepts: true, first: []int{2},
			trimmed: api.Dfa{
				Letters: 3,
				Next:    [][]int{{1, 2, 3}, {3, 1, 4}, {3, 4, 2}, {0, 3, 4}, {4, 4, 4}},
				Final:   []bool{false, false, false, true, false},
			},
			counts: []int{0, 1, 3},
		},
		{
			name: "words of one length", d: rivals(),
			reached: []int{0, 1, 2, 3, 4, 5}, alive: []int{1, 2, 3, 4, 5}, accepts: true, first: []int{1, 2},
			trimmed: api.Dfa{
				Letters: 3,
				Next:    [][]int{{1, 2, 3}, {1, 1, 1}, {1, 1, 4}, {1, 5, 1}, {4, 4, 4}, {5, 5, 5}},
				Final:   []bool{false, false, false, false, true, true},
			},
			counts: []int{0, 0, 2, 6, 18},
		},
	}
}

// 7.1: the states to which words lead, in increasing order.
func TestReached(t *testing.T) {
	for _, c := range examples() {
		if got, err := reach.Reached(c.d); !slices.Equal(got, c.reached) || err != nil {
			t.Errorf("%s: Reached(%v) = %v, %v, want %v", c.name, c.d, got, err, c.reached)
		}
	}
}

// 7.1: the states from which words lead to final states, in increasing order.
func TestAlive(t *testing.T) {
	for _, c := range examples() {
		if got, err := reach.Alive(c.d); !slices.Equal(got, c.alive) || err != nil {
			t.Errorf("%s: Alive(%v) = %v, %v, want %v", c.name, c.d, got, err, c.alive)
		}
	}
}

// 7.1: the accepted word that precedes all others, or none if no word is accepted.
func TestFirst(t *testing.T) {
	for _, c := range examples() {
		want := api.OK
		if !c.accepts {
			want = api.ErrNone
		}
		if got, err := reach.First(c.d); !slices.Equal(got, c.first) || plain.Told(err) != want {
			t.Errorf("%s: First(%v) = %v, %v, want %v, %v", c.name, c.d, got, err, c.first, want)
		}
	}
}

// 7.2: the reached states, numbered as they are found.
func TestTrim(t *testing.T) {
	for _, c := range examples() {
		if got, err := reach.Trim(c.d); !sample.EqualDfas(got, c.trimmed) || err != nil {
			t.Errorf("%s: Trim(%v) = %v, %v, want %v", c.name, c.d, got, err, c.trimmed)
		}
	}
}

// 7.2: the number of accepted words with n letters.
func TestCount(t *testing.T) {
	for _, c := range examples() {
		for n, want := range c.counts {
			if got, err := reach.Count(c.d, n); got != want || err != nil {
				t.Errorf("%s: Count(%v, %d) = %d, %v, want %d", c.name, c.d, n, got, err, want)
			}
		}
	}
}

// check demands of all functions some answers.
func check(t *testing.T, d api.Dfa, n int, want answers) {
	t.Helper()
	if got, err := reach.Reached(d); !slices.Equal(got, want.reached) || plain.Told(err) != want.wrong {
		t.Errorf("Reached(%v) = %v, %v, want %v, %v", d, got, err, want.reached, want.wrong)
	}
	if got, err := reach.Alive(d); !slices.Equal(got, want.alive) || plain.Told(err) != want.wrong {
		t.Errorf("Alive(%v) = %v, %v, want %v, %v", d, got, err, want.alive, want.wrong)
	}
	if got, err := reach.First(d); !slices.Equal(got, want.first) || plain.Told(err) != want.noFirst {
		t.Errorf("First(%v) = %v, %v, want %v, %v", d, got, err, want.first, want.noFirst)
	}
	if got, err := reach.Trim(d); !sample.EqualDfas(got, want.trimmed) || plain.Told(err) != want.wrong {
		t.Errorf("Trim(%v) = %v, %v, want %v, %v", d, got, err, want.trimmed, want.wrong)
	}
	if got, err := reach.Count(d, n); got != want.count || plain.Told(err) != want.noCount {
		t.Errorf("Count(%v, %d) = %d, %v, want %d, %v", d, n, got, err, want.count, want.noCount)
	}
}

// 7.1, 7.2: for all small automata, the functions say what all short words do.
func TestAll(t *testing.T) {
	for _, c := range []struct{ states, letters, longest, step int }{
		{1, 1, 3, 1}, {1, 6, 2, 1}, {2, 1, 4, 1}, {2, 2, 3, 1}, {2, 3, 2, 1}, {3, 1, 4, 1}, {3, 2, 3, 1}, {4, 1, 4, 1}, {3, 3, 2, 101},
	} {
		words := sample.Words(c.longest, c.letters)
		all := sample.AllDfas(c.states, c.letters)
		for i := 0; i < len(all); i += c.step {
			n := i % (c.longest + 1)
			check(t, all[i], n, fromWords(all[i], n, words))
		}
	}
}

// 7.1, 7.2: for automata of all sizes, the functions say what the words of the chapter do.
func TestMixed(t *testing.T) {
	noFirst, unreached, dead := 0, 0, 0
	for seed := range uint64(3000) {
		states, letters, n := 1+int(seed)%40, 1+int(seed)/40%3, int(seed)/7%21
		for _, d := range []api.Dfa{sample.Mixed(seed, states, letters), sample.OneFinal(seed, states, letters), sample.Mixed(seed, states, letters+3)} {
			want := slowly(d, n)
			check(t, d, n, want)
			if want.noFirst == api.ErrNone {
				noFirst++
			}
			if len(want.reached) < states {
				unreached++
			}
			if len(want.alive) < states {
				dead++
			}
		}
	}
	if noFirst < 500 || unreached < 500 || dead < 500 {
		t.Errorf("%d automata accept no word, %d have unreached states, %d dead ones", noFirst, unreached, dead)
	}
}

// path returns the automaton of 40 states and all letters in which one letter leads
// from each state to the one before it, and all others lead back to the last state,
// where it starts. It accepts what leads to state 0, from where nothing leads away.
func path() (api.Dfa, []int) {
	d := api.Dfa{Letters: 6, Start: 39, Final: make([]bool, 40)}
	d.Final[0] = true
	var way []int
	for s := range 40 {
		row := sample.Repeated(6, 39)
		row[s*5%6] = s - 1
		d.Next = append(d.Next, row)
		way = append(way, s*5%6)
	}
	d.Next[0] = sample.Repeated(6, 0)
	slices.Reverse(way)
	return d, way[:39]
}

// 7.1: a word may have to lead through all 40 states.
func TestLongWay(t *testing.T) {
	d, way := path()
	all := make([]int, 40)
	for s := range all {
		all[s] = s
	}
	for _, c := range []struct {
		d     api.Dfa
		first []int
	}{
		{d, way},
		{sample.Ring(0, 40), sample.Repeated(39, 0)},
		{sample.Ring(39, 1), sample.Repeated(39, 0)},
	} {
		reached, err := reach.Reached(c.d)
		alive, wrong := reach.Alive(c.d)
		if !slices.Equal(reached, all) || !slices.Equal(alive, all) || err != nil || wrong != nil {
			t.Errorf("of %v, %v, %v are reached, %v, %v alive", c.d, reached, err, alive, wrong)
		}
		if first, err := reach.First(c.d); !slices.Equal(first, c.first) || err != nil {
			t.Errorf("First(%v) = %v, %v, want %v", c.d, first, err, c.first)
		}
	}
}

// 7.1: no accepted word precedes the first one.
func TestFirstPrecedesAll(t *testing.T) {
	for seed := range uint64(200) {
		letters := 2 + int(seed)%2
		d := sample.OneFinal(seed, 3+int(seed)%7, letters)
		first, err := reach.First(d)
		if is, wrong := dfa.Accepts(d, first); err == nil && (!is || wrong != nil) {
			t.Errorf("%v does not accept First, %v", d, first)
		}
		for _, w := range sample.Words(6, letters) {
			is, _ := dfa.Accepts(d, w)
			if is && err != nil {
				t.Fatalf("First(%v) = %v, but %v is accepted", d, err, w)
			}
			if less, _ := word.Less(letters, w, first); is && less {
				t.Fatalf("First(%v) = %v, but %v precedes it", d, first, w)
			}
		}
	}
}

// 7.2: what is trimmed accepts the same words, and stays the same when it is trimmed again.
func TestTrimAccepts(t *testing.T) {
	for seed := range uint64(200) {
		d := sample.Mixed(seed, 1+int(seed)%9, 2)
		trimmed, err := reach.Trim(d)
		again, wrong := reach.Trim(trimmed)
		if !sample.EqualDfas(again, trimmed) || err != nil || wrong != nil {
			t.Errorf("Trim(%v) = %v, %v, and trimmed again %v, %v", d, trimmed, err, again, wrong)
		}
		for _, w := range sample.Words(7, 2) {
			before, _ := dfa.Accepts(d, w)
			if is, err := dfa.Accepts(trimmed, w); is != before || err != nil {
				t.Fatalf("Trim(%v) = %v accepts %v: %v, %v", d, trimmed, w, is, err)
			}
		}
	}
}

// 7.2: all of 40 states may be left, and their numbers all change.
func TestTrimLong(t *testing.T) {
	d, way := path()
	want := api.Dfa{Letters: 6, Final: make([]bool, 40)}
	want.Final[39] = true
	for s, letter := range way {
		want.Next = append(want.Next, sample.Replaced(sample.Repeated(6, 0), letter, s+1))
	}
	want.Next = append(want.Next, sample.Repeated(6, 39))
	if got, err := reach.Trim(d); !sample.EqualDfas(got, want) || err != nil {
		t.Errorf("Trim(%v) = %v, %v, want %v", d, got, err, want)
	}
	if got, err := reach.Trim(sample.Started(d, 0)); len(got.Next) != 1 || !got.Final[0] || err != nil {
		t.Errorf("Trim(%v) from 0 = %v, %v", d, got, err)
	}
}

// 7.2: words of up to 20 letters are counted, of which there may be 6 to the power of 20.
func TestCountAll(t *testing.T) {
	for letters := 1; letters <= 6; letters++ {
		every := api.Dfa{Letters: letters, Next: [][]int{make([]int, letters)}, Final: []bool{true}}
		all := 1
		for n := range 21 {
			if got, err := reach.Count(every, n); got != all || err != nil {
				t.Errorf("Count(%v, %d) = %d, %v, want %d", every, n, got, err, all)
			}
			if got, err := reach.Count(sample.NoneFinal(every), n); got != 0 || err != nil {
				t.Errorf("Count(%v, %d) = %d, %v, want 0", sample.NoneFinal(every), n, got, err)
			}
			d := sample.Mixed(uint64(n), 40, letters)
			not, _ := dfa.Not(d)
			some, err := reach.Count(d, n)
			others, wrong := reach.Count(not, n)
			if some+others != all || err != nil || wrong != nil {
				t.Errorf("%v accepts %d, %v of %d words with %d letters, but not %d, %v", d, some, err, all, n, others, wrong)
			}
			all *= letters
		}
		if letters == 6 && all/6 != 3656158440062976 {
			t.Errorf("there are %d words", all/6)
		}
	}
}

// 7.2: n is in [0, 20].
func TestCountRange(t *testing.T) {
	for _, d := range []api.Dfa{sample.Ring(0, 1), sample.NoneFinal(sample.Ring(0, 1)), sample.Ring(20, 20), sample.Mixed(1, 40, 6)} {
		for n := -300; n <= 600; n++ {
			want := api.OK
			if n < 0 || n > 20 {
				want = api.ErrRange
			}
			if got, err := reach.Count(d, n); plain.Told(err) != want || err != nil && got != 0 {
				t.Errorf("Count(%v, %d) = %d, %v, want %v", d, n, got, err, want)
			}
		}
		for _, n := range []int{math.MinInt, math.MinInt + 20, -1 << 32, 1 << 32, 1<<32 + 1, math.MaxInt} {
			if got, err := reach.Count(d, n); plain.Told(err) != api.ErrRange || got != 0 {
				t.Errorf("Count(%v, %d) = %d, %v, want ErrRange", d, n, got, err)
			}
		}
	}
}

// 7.1, 7.2: the errors of dfa.Check come first, and with an error there is nothing else.
func TestErrors(t *testing.T) {
	for _, c := range sample.DfaChecks() {
		for _, n := range []int{0, 20, -1, 21} {
			want := slowly(c.Dfa, n)
			if want.wrong != c.Want {
				t.Fatalf("%s: the slow way finds %v, want %v", c.Name, want.wrong, c.Want)
			}
			check(t, c.Dfa, n, want)
		}
	}
}

// 7.1, 7.2: of several errors, the first one is returned.
func TestFirstError(t *testing.T) {
	short := sample.Ring(0, 3)
	short.Final = nil
	lost := sample.NoneFinal(sample.Started(sample.Ring(0, 3), 3))
	cases := []struct {
		d            api.Dfa
		n            int
		first, count api.Errno
	}{
		{short, -1, api.ErrShape, api.ErrShape},
		{short, 21, api.ErrShape, api.ErrShape},
		{sample.NoneFinal(sample.Ring(0, 41)), 21, api.ErrFull, api.ErrFull},
		{lost, -1, api.ErrRange, api.ErrRange},
		{sample.NoneFinal(sample.Ring(0, 40)), 21, api.ErrNone, api.ErrRange},
		{sample.NoneFinal(sample.Ring(0, 40)), 20, api.ErrNone, api.OK},
		{sample.Ring(0, 40), 20, api.OK, api.OK},
	}
	for _, c := range cases {
		_, first := reach.First(c.d)
		_, count := reach.Count(c.d, c.n)
		if plain.Told(first) != c.first || plain.Told(count) != c.count {
			t.Errorf("First(%v) = %v, Count(.., %d) = %v, want %v, %v", c.d, first, c.n, count, c.first, c.count)
		}
	}
}
