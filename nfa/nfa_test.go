package nfa_test

import (
	"math"
	"slices"
	"testing"

	"stileward/api"
	"stileward/dfa"
	"stileward/nfa"
	"stileward/plain"
	"stileward/reach"
	"stileward/sample"
	"stileward/small"
	"stileward/word"
)

// 9.1: what Check finds, and what it finds first.
func TestCheck(t *testing.T) {
	for _, c := range nfaChecks() {
		if err := nfa.Check(c.nfa); plain.Told(err) != c.want {
			t.Errorf("%s: Check(%v) = %v, want %v", c.name, c.nfa, err, c.want)
		}
	}
}

// 9.1: there are from 1 to 6 letters, from 1 to 40 states, and at most 40 starts, 40 final states and 240 moves.
func TestCheckSizes(t *testing.T) {
	for letters := -2; letters <= 9; letters++ {
		for states := -2; states <= 90; states++ {
			want := api.ErrRange
			if letters >= 1 && letters <= 6 && states >= 1 && states <= 40 {
				want = api.OK
			}
			if err := nfa.Check(api.Nfa{Letters: letters, States: states}); plain.Told(err) != want {
				t.Errorf("Check of %d letters and %d states = %v, want %v", letters, states, err, want)
			}
		}
	}
	wantUpTo := func(length, most int) api.Errno {
		if length > most {
			return api.ErrFull
		}
		return api.OK
	}
	for length := range 300 {
		for _, n := range []api.Nfa{{Letters: 1, States: 1}, {Letters: 6, States: 40}} {
			starts := changed(n, func(n *api.Nfa) { n.Starts = make([]int, length) })
			finals := changed(n, func(n *api.Nfa) { n.Final = make([]int, length) })
			moves := changed(n, func(n *api.Nfa) { n.Moves = make([]api.Move, length) })
			if err := nfa.Check(starts); plain.Told(err) != wantUpTo(length, 40) {
				t.Errorf("Check of %d starts = %v", length, err)
			}
			if err := nfa.Check(finals); plain.Told(err) != wantUpTo(length, 40) {
				t.Errorf("Check of %d final states = %v", length, err)
			}
			if err := nfa.Check(moves); plain.Told(err) != wantUpTo(length, 240) {
				t.Errorf("Check of %d moves = %v", length, err)
			}
		}
	}
}

// 9.1: a number that is no state or letter is found wherever it is, and one that is one is none.
func TestCheckPlaces(t *testing.T) {
	for _, n := range []api.Nfa{back(3), crowded(), mixed(1, 1, 1, 9), mixed(2, 39, 5, 240)} {
		checkNumber := func(number *int, least, most int) {
			t.Helper()
			before := *number
			for _, *number = range []int{math.MinInt, -1 << 32, -256, -2, -1, 0, most - 1, most, most + 1, 64, 1 << 32, math.MaxInt} {
				want := api.ErrRange
				if *number >= least && *number <= most {
					want = api.OK
				}
				if err := nfa.Check(n); plain.Told(err) != want {
					t.Fatalf("Check(%v) = %v, want %v", n, err, want)
				}
			}
			*number = before
		}
		for i := range n.Starts {
			checkNumber(&n.Starts[i], 0, n.States-1)
		}
		for i := range n.Final {
			checkNumber(&n.Final[i], 0, n.States-1)
		}
		for i := range n.Moves {
			checkNumber(&n.Moves[i].From, 0, n.States-1)
			checkNumber(&n.Moves[i].Letter, -1, n.Letters-1)
			checkNumber(&n.Moves[i].To, 0, n.States-1)
		}
	}
}

// 9.1: a word is accepted if some way of reading it leads to a final state.
func TestAccepts(t *testing.T) {
	only := func(n api.Nfa, starts, finals []int) api.Nfa {
		n.Starts, n.Final = starts, finals
		return n
	}
	ends := append(sample.Repeated(77, 0), 1, 0, 0)
	cases := []struct {
		name string
		n    api.Nfa
		w    []int
		want bool
	}{
		{"nothing but a state", api.Nfa{Letters: 1, States: 1}, nil, false},
		{"a start alone", api.Nfa{Letters: 1, States: 1, Starts: []int{0}}, nil, false},
		{"a final state alone", api.Nfa{Letters: 1, States: 1, Final: []int{0}}, nil, false},
		{"a start that is final", api.Nfa{Letters: 1, States: 1, Starts: []int{0}, Final: []int{0}}, nil, true},
		{"a letter without a move", api.Nfa{Letters: 1, States: 1, Starts: []int{0}, Final: []int{0}}, []int{0}, false},
		{"the third from the end", back(3), []int{1, 0, 0}, true},
		{"the third from the end of many", back(3), []int{0, 0, 1, 0, 1, 1}, false},
		{"the third from the end of 80", back(3), ends, true},
		{"the second from the end of 80", back(2), ends, false},
		{"the third of two", back(3), []int{1, 1}, false},
		{"one of two starts", only(back(3), []int{3, 1}, []int{3}), []int{0, 0}, true},
		{"the other of two starts", only(back(3), []int{3, 1}, []int{3}), nil, true},
		{"none of two starts", only(back(3), []int{3, 1}, []int{3}), []int{0}, false},
		{"the first final state", only(back(3), []int{1}, []int{2, 3}), []int{0}, true},
		{"the second final state", only(back(3), []int{1}, []int{2, 3}), []int{0, 1}, true},
		{"a start and a final state twice", only(back(3), []int{1, 1}, []int{3, 3}), []int{0, 0}, true},
		{"no block", blocks(), nil, true},
		{"the first block alone", blocks(), []int{0, 0}, true},
		{"the second block alone", blocks(), []int{1}, true},
		{"both blocks", blocks(), []int{0, 0, 1, 1, 1}, true},
		{"blocks in the wrong order", blocks(), []int{1, 0}, false},
		{"a third block", blocks(), []int{0, 1, 0}, false},
		{"moves that go round", round(), []int{1}, true},
		{"moves that go round for nothing", round(), nil, false},
		{"moves that go round by a letter without a move", round(), []int{0}, false},
		{"moves that go round twice", round(), []int{1, 1}, false},
		{"40 states by a letter", chain(40, 0), sample.Repeated(39, 0), true},
		{"40 states by a letter too few", chain(40, 0), sample.Repeated(38, 0), false},
		{"40 states by a letter too many", chain(40, 0), sample.Repeated(40, 0), false},
		{"40 states without a letter", chain(40, -1), nil, true},
		{"40 states without a letter that is there", chain(40, -1), []int{0}, false},
	}
	for _, c := range cases {
		backwards := cloneNfa(c.n)
		slices.Reverse(backwards.Moves)
		for _, n := range []api.Nfa{c.n, backwards} {
			if got, err := nfa.Accepts(n, c.w); got != c.want || err != nil {
				t.Errorf("%s: Accepts(%v, %v) = %v, %v, want %v", c.name, n, c.w, got, err, c.want)
			}
		}
	}
}

// checkAccepts demands of Accepts what its words say.
func checkAccepts(t *testing.T, n api.Nfa, w []int) {
	t.Helper()
	want, wrong := false, acceptsWrongOf(n, w)
	if wrong == api.OK {
		want = isFinal(n, behind(n, w))
	}
	if got, err := nfa.Accepts(n, w); got != want || plain.Told(err) != wrong {
		t.Errorf("Accepts(%v, %v) = %v, %v, want %v, %v", n, w, got, err, want, wrong)
	}
}

// 9.1, 9.2, 9.3: for small automata, all of some sizes and every few of others, Accepts, Make and Mirror
// do what all short words say.
func TestSmall(t *testing.T) {
	// There are at most two sets to the power of the number of states, and so each is found
	// behind a word of fewer letters than that.
	cases := []struct{ states, letters, step, longest int }{
		{1, 1, 1, 4},
		{1, 2, 1, 3},
		{1, 6, 1, 2},
		{2, 1, 1, 4},
		{2, 2, 37, 4},
		{2, 3, 1009, 3},
		{3, 1, 20011, 8},
		{3, 2, 50000017, 7},
	}
	for _, c := range cases {
		words := sample.Words(c.longest, c.letters)
		for _, n := range smallNfas(c.states, c.letters, c.step) {
			for _, w := range words {
				checkAccepts(t, n, w)
			}
			want := makeOfWords(n, words)
			if got, err := nfa.Make(n); !sample.EqualDfas(got, want) || err != nil {
				t.Errorf("Make(%v) = %v, %v, want %v", n, got, err, want)
			}
			mirror, err := nfa.Mirror(n)
			for _, w := range words {
				mirrored, _ := word.Mirror(c.letters, w)
				if is, wrong := nfa.Accepts(mirror, mirrored); is != isFinal(n, behind(n, w)) || err != nil || wrong != nil {
					t.Errorf("Mirror(%v) = %v, %v accepts %v: %v, %v", n, mirror, err, mirrored, is, wrong)
				}
			}
		}
	}
}

// 9.1: Accepts of automata of all sizes and of long words does what the words say.
func TestAcceptsMixed(t *testing.T) {
	accepted, all := 0, 0
	for seed := range uint64(600) {
		below := sample.Below(seed)
		states, letters := 1+below(40), 1+below(6)
		n := mixed(seed, states, letters, below(241))
		w := make([]int, []int{0, 1, 2, 5, 10, 79, 80}[below(7)])
		for i := range w {
			w[i] = below(letters)
		}
		checkAccepts(t, n, w)
		all++
		if is, _ := nfa.Accepts(n, w); is {
			accepted++
		}
	}
	if accepted < all/5 || accepted > all*4/5 {
		t.Errorf("%d of %d words are accepted", accepted, all)
	}
}

// 9.1: the errors of Accepts: those of the automaton, and then those of the word.
func TestAcceptsErrors(t *testing.T) {
	for _, n := range nfaChecks() {
		for _, w := range sample.Checks() {
			checkAccepts(t, n.nfa, w.Word)
		}
	}
	full, outside := changed(blocks(), func(n *api.Nfa) { n.Starts = sample.Repeated(41, 0) }), chain(41, 0)
	long, bad := sample.Repeated(81, 0), []int{0, 2}
	cases := []struct {
		n    api.Nfa
		w    []int
		want api.Errno
	}{
		{full, bad, api.ErrFull},
		{outside, long, api.ErrRange},
		{blocks(), long, api.ErrFull},
		{blocks(), sample.Repeated(81, 2), api.ErrFull},
		{blocks(), bad, api.ErrRange},
		{blocks(), []int{-1}, api.ErrRange},
		{blocks(), sample.Repeated(80, 1), api.OK},
	}
	for _, c := range cases {
		if is, err := nfa.Accepts(c.n, c.w); plain.Told(err) != c.want || err != nil && is {
			t.Errorf("Accepts(%v, %v) = %v, %v, want %v", c.n, c.w, is, err, c.want)
		}
	}
}

// 9.2: the sets are numbered as they are found, and final if they have a final state.
func TestMake(t *testing.T) {
	cases := []struct {
		name string
		n    api.Nfa
		want api.Dfa
	}{
		{
			"no start: the empty set alone", api.Nfa{Letters: 3, States: 2, Moves: []api.Move{move(0, 0, 1)}, Final: []int{0, 1}},
			api.Dfa{Letters: 3, Next: [][]int{{0, 0, 0}}, Final: []bool{false}},
		},
		{
			"a state, and the empty set", api.Nfa{Letters: 1, States: 1, Starts: []int{0}, Final: []int{0}},
			api.Dfa{Letters: 1, Next: [][]int{{1}, {1}}, Final: []bool{true, false}},
		},
		{
			"a state without the empty set", api.Nfa{Letters: 1, States: 1, Starts: []int{0, 0}, Moves: []api.Move{move(0, 0, 0)}},
			api.Dfa{Letters: 1, Next: [][]int{{0}}, Final: []bool{false}},
		},
		{
			// 0, 01, 02, 012, 03, 013, 023, 0123
			"the third from the end", back(3),
			api.Dfa{
				Letters: 2,
				Next:    [][]int{{0, 1}, {2, 3}, {4, 5}, {6, 7}, {0, 1}, {2, 3}, {4, 5}, {6, 7}},
				Final:   []bool{false, false, false, false, true, true, true, true},
			},
		},
		{
			// 012, 12, none
			"blocks", blocks(),
			api.Dfa{Letters: 2, Next: [][]int{{0, 1}, {2, 1}, {2, 2}}, Final: []bool{true, true, false}},
		},
		{
			// 012, none, 34
			"round", round(),
			api.Dfa{Letters: 2, Next: [][]int{{1, 2}, {1, 1}, {1, 1}}, Final: []bool{false, false, true}},
		},
		{
			// 0123
			"a chain without letters", chain(4, -1),
			api.Dfa{Letters: 1, Next: [][]int{{1}, {1}}, Final: []bool{true, false}},
		},
		{
			// 13, 2, 3, none
			"the greater letter first in the list",
			api.Nfa{Letters: 2, States: 4, Starts: []int{3, 1}, Moves: []api.Move{move(3, 1, 3), move(1, 0, 2)}, Final: []int{2}},
			api.Dfa{Letters: 2, Next: [][]int{{1, 2}, {3, 3}, {3, 2}, {3, 3}}, Final: []bool{false, true, false, false}},
		},
	}
	for _, c := range cases {
		backwards := cloneNfa(c.n)
		slices.Reverse(backwards.Starts)
		slices.Reverse(backwards.Moves)
		slices.Reverse(backwards.Final)
		for _, n := range []api.Nfa{c.n, backwards} {
			if got, err := nfa.Make(n); !sample.EqualDfas(got, c.want) || err != nil {
				t.Errorf("%s: Make(%v) = %v, %v, want %v", c.name, n, got, err, c.want)
			}
		}
	}
}

// checkMake demands of Make what its words say.
func checkMake(t *testing.T, n api.Nfa) {
	t.Helper()
	want, wrong := makeSlowly(n)
	if got, err := nfa.Make(n); !sample.EqualDfas(got, want) || plain.Told(err) != wrong {
		t.Errorf("Make(%v) = %v, %v, want %v, %v", n, got, err, want, wrong)
	}
}

// 9.2: Make of automata of all sizes does what the words say, be there too many sets or not.
func TestMakeMixed(t *testing.T) {
	full, several := 0, 0
	for seed := range uint64(1000) {
		below := sample.Below(seed)
		states := 1 + below(40)
		letters := 1 + below(6)
		n := mixed(seed, states, letters, below(min(240, 3*states*letters)))
		checkMake(t, n)
		d, err := nfa.Make(n)
		if plain.Told(err) == api.ErrFull {
			full++
		}
		if len(d.Next) > 3 {
			several++
		}
	}
	if full < 50 || several < 200 {
		t.Errorf("%d automata have too many sets, %d several, but not too many", full, several)
	}
}

// 9.2: there are at most 40 sets, and the empty one counts if it is found.
func TestMakeFull(t *testing.T) {
	cases := []struct {
		name string
		n    api.Nfa
		sets int
	}{
		{"32 sets of 6 states", back(5), 32},
		{"64 sets of 7 states", back(6), 64},
		{"sets beyond number", back(39), 1 << 39},
		{"38 states in a row", chain(38, 0), 39},
		{"39 states in a row", chain(39, 0), 40},
		{"40 states in a row", chain(40, 0), 41},
		{"40 states in a ring", ofSlowly(sample.Ring(0, 40)), 40},
		{"rings of 5 and 8 states", together(sample.Ring(0, 5), sample.Ring(0, 8)), 40},
		{"rings of 5 and 8 states, behind 1", together(sample.Ring(1, 5), sample.Ring(0, 8)), 41},
		{"rings of 3 and 13 states, behind 1", together(sample.Ring(0, 3), sample.Ring(1, 13)), 40},
		{"rings of 3 and 13 states, behind 2", together(sample.Ring(0, 3), sample.Ring(2, 13)), 41},
		{"rings of 19 and 21 states", together(sample.Ring(0, 19), sample.Ring(0, 21)), 399},
		{"rings of 20 states in step", together(sample.Ring(0, 20), sample.Ring(0, 20)), 20},
	}
	for _, c := range cases {
		sets, want := c.sets, api.OK
		if c.sets > 40 {
			sets, want = 0, api.ErrFull
		}
		got, err := nfa.Make(c.n)
		if len(got.Next) != sets || plain.Told(err) != want || err != nil && !sample.EqualDfas(got, api.Dfa{}) {
			t.Errorf("%s: Make = %v, %v, want %d states, %v", c.name, got, err, sets, want)
		}
		checkMake(t, c.n)
	}
}

// 9.2: Make accepts the same words, and its errors are those of Check.
func TestMakeAccepts(t *testing.T) {
	for seed := range uint64(300) {
		n := mixed(seed, 1+int(seed)%6, 2, int(seed)%14)
		d, err := nfa.Make(n)
		if plain.Told(err) == api.ErrFull {
			continue
		}
		for _, w := range sample.Words(7, 2) {
			is, wrong := nfa.Accepts(n, w)
			if made, err := dfa.Accepts(d, w); made != is || err != nil || wrong != nil {
				t.Fatalf("Make(%v) = %v accepts %v: %v, %v, but Accepts says %v, %v", n, d, w, made, err, is, wrong)
			}
		}
		if err := dfa.Check(d); err != nil || d.Letters != 2 {
			t.Errorf("Make(%v) = %v, %v", n, d, err)
		}
	}
	for _, c := range nfaChecks() {
		checkMake(t, c.nfa)
	}
}

// 9.3: Mirror exchanges starts and final states, and turns each move round, all in their order.
func TestMirror(t *testing.T) {
	cases := []struct{ n, want api.Nfa }{
		{api.Nfa{Letters: 2, States: 3}, api.Nfa{Letters: 2, States: 3}},
		{
			api.Nfa{Letters: 6, States: 40, Starts: []int{39, 0, 39}},
			api.Nfa{Letters: 6, States: 40, Final: []int{39, 0, 39}},
		},
		{
			blocks(),
			api.Nfa{
				Letters: 2, States: 3, Starts: []int{2}, Final: []int{0},
				Moves: []api.Move{move(0, 0, 0), move(1, -1, 0), move(1, 1, 1), move(2, -1, 1)},
			},
		},
		{
			api.Nfa{
				Letters: 3, States: 5, Starts: []int{4, 1, 4}, Final: []int{3, 2, 0, 2},
				Moves: []api.Move{move(4, 2, 0), move(0, -1, 1), move(4, 2, 0), move(1, 0, 3)},
			},
			api.Nfa{
				Letters: 3, States: 5, Starts: []int{3, 2, 0, 2}, Final: []int{4, 1, 4},
				Moves: []api.Move{move(0, 2, 4), move(1, -1, 0), move(0, 2, 4), move(3, 0, 1)},
			},
		},
	}
	for _, c := range cases {
		if got, err := nfa.Mirror(c.n); !equalNfas(got, c.want) || err != nil {
			t.Errorf("Mirror(%v) = %v, %v, want %v", c.n, got, err, c.want)
		}
		if got, err := nfa.Mirror(c.want); !equalNfas(got, c.n) || err != nil {
			t.Errorf("Mirror(%v) = %v, %v, want %v", c.want, got, err, c.n)
		}
	}
}

// checkMirror demands of Mirror what its words say.
func checkMirror(t *testing.T, n api.Nfa) {
	t.Helper()
	want, wrong := api.Nfa{}, wrongOf(n)
	if wrong == api.OK {
		want = mirrorSlowly(n)
	}
	if got, err := nfa.Mirror(n); !equalNfas(got, want) || plain.Told(err) != wrong {
		t.Errorf("Mirror(%v) = %v, %v, want %v, %v", n, got, err, want, wrong)
	}
}

// 9.3: Mirror of automata of all sizes does what the words say, and its errors are those of Check.
func TestMirrorAll(t *testing.T) {
	for _, c := range nfaChecks() {
		checkMirror(t, c.nfa)
	}
	for seed := range uint64(500) {
		checkMirror(t, mixed(seed, 1+int(seed)%40, 1+int(seed)%6, int(seed)%241))
	}
}

// 9.3: Of has the moves state by state and letter by letter, and the final states rising.
func TestOf(t *testing.T) {
	cases := []struct {
		d    api.Dfa
		want api.Nfa
	}{
		{
			sample.Ring(0, 1),
			api.Nfa{Letters: 1, States: 1, Starts: []int{0}, Moves: []api.Move{move(0, 0, 0)}, Final: []int{0}},
		},
		{
			sample.NoneFinal(sample.Ring(1, 2)),
			api.Nfa{Letters: 1, States: 3, Starts: []int{0}, Moves: []api.Move{move(0, 0, 1), move(1, 0, 2), move(2, 0, 1)}},
		},
		{
			api.Dfa{Letters: 3, Start: 1, Next: [][]int{{2, 1, 0}, {0, 0, 1}, {2, 2, 2}}, Final: []bool{true, false, true}},
			api.Nfa{
				Letters: 3, States: 3, Starts: []int{1}, Final: []int{0, 2},
				Moves: []api.Move{
					move(0, 0, 2), move(0, 1, 1), move(0, 2, 0),
					move(1, 0, 0), move(1, 1, 0), move(1, 2, 1),
					move(2, 0, 2), move(2, 1, 2), move(2, 2, 2),
				},
			},
		},
	}
	for _, c := range cases {
		if got, err := nfa.Of(c.d); !equalNfas(got, c.want) || err != nil {
			t.Errorf("Of(%v) = %v, %v, want %v", c.d, got, err, c.want)
		}
	}
}

// checkOf demands of Of what its words say.
func checkOf(t *testing.T, d api.Dfa) {
	t.Helper()
	want, wrong := api.Nfa{}, plain.Told(dfa.Check(d))
	if wrong == api.OK {
		want = ofSlowly(d)
	}
	if got, err := nfa.Of(d); !equalNfas(got, want) || plain.Told(err) != wrong {
		t.Errorf("Of(%v) = %v, %v, want %v, %v", d, got, err, want, wrong)
	}
}

// 9.3: Of small automata and of all sizes does what the words say, and its errors are those of dfa.Check.
func TestOfAll(t *testing.T) {
	all := slices.Concat(sample.AllDfas(1, 1), sample.AllDfas(1, 6), sample.AllDfas(2, 2), sample.AllDfas(3, 1))
	for seed := range uint64(500) {
		all = append(all, sample.Mixed(seed, 1+int(seed)%40, 1+int(seed)%6))
	}
	for _, c := range sample.DfaChecks() {
		all = append(all, c.Dfa)
	}
	for _, d := range all {
		checkOf(t, d)
	}
}

// 9.3: what Of returns is an automaton, whatever the size, that accepts the same words.
func TestOfAccepts(t *testing.T) {
	great, err := nfa.Of(sample.Mixed(1, 40, 6))
	if wrong := nfa.Check(great); len(great.Moves) != 240 || err != nil || wrong != nil {
		t.Errorf("Of an automaton of 40 states has %d moves, %v, %v", len(great.Moves), err, wrong)
	}
	for seed := range uint64(100) {
		d := sample.Mixed(seed, 1+int(seed)%40, 2)
		n, err := nfa.Of(d)
		for _, w := range sample.Words(6, 2) {
			is, wrong := nfa.Accepts(n, w)
			if want, _ := dfa.Accepts(d, w); is != want || err != nil || wrong != nil {
				t.Fatalf("Of(%v) = %v, %v accepts %v: %v, %v", d, n, err, w, is, wrong)
			}
		}
	}
}

// 9.2, 9.3: Make of Of leaves the reached states, numbered as by reach.Trim.
func TestMakeOf(t *testing.T) {
	for seed := range uint64(500) {
		d := sample.Mixed(seed, 1+int(seed)%40, 1+int(seed)/40%6)
		n, err := nfa.Of(d)
		want, _ := reach.Trim(d)
		if got, wrong := nfa.Make(n); !sample.EqualDfas(got, want) || err != nil || wrong != nil {
			t.Errorf("Make of Of(%v) = %v, %v, %v, want %v", d, got, err, wrong, want)
		}
	}
}

// 9.2, 9.3: an automaton that is mirrored and made twice is minimal (which Brzozowski has shown).
func TestMirrorTwice(t *testing.T) {
	mirrored := func(d api.Dfa) (api.Dfa, error) {
		n, err := nfa.Of(d)
		mirror, wrong := nfa.Mirror(n)
		if err != nil || wrong != nil {
			t.Errorf("Of(%v) = %v, %v, and its Mirror is %v, %v", d, n, err, mirror, wrong)
		}
		return nfa.Make(mirror)
	}
	for seed := range uint64(1000) {
		d := sample.Mixed(seed, 1+int(seed)%5, 1+int(seed)/5%6)
		want, _ := small.Minimal(d)
		once, err := mirrored(d)
		if got, wrong := mirrored(once); !sample.EqualDfas(got, want) || err != nil || wrong != nil {
			t.Errorf("%v mirrored and made twice is %v, %v, %v, want %v", d, got, err, wrong, want)
		}
	}
}
