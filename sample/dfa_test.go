package sample_test

import (
	"maps"
	"slices"
	"strconv"
	"testing"

	"stileward/api"
	"stileward/sample"
)

// twoStates is an automaton in which everything differs from everything else.
func twoStates() api.Dfa {
	return api.Dfa{Letters: 3, Start: 1, Next: [][]int{{0, 1, 0}, {1, 1, 0}}, Final: []bool{true, false}}
}

// Dfa has the rows of a text, and a final or another state for each byte of the other one.
func TestDfa(t *testing.T) {
	cases := []struct {
		letters, start int
		rows, finals   string
		want           api.Dfa
	}{
		{3, 1, "\x00\x01\x00\x01\x01\x00", "\x01\x00", twoStates()},
		{2, -1, "\x02\xff\x00", "\x03\x02\xff", api.Dfa{
			Letters: 2, Start: -1, Next: [][]int{{2, -1}, {0}}, Final: []bool{true, false, true},
		}},
		{1, 0, "\x01\x00", "", api.Dfa{Letters: 1, Next: [][]int{{1}, {0}}}},
		{7, 0, "\x00\x00\x00\x00\x00\x00\x00\x01", "", api.Dfa{Letters: 7, Next: [][]int{{0, 0, 0, 0, 0, 0, 0}, {1}}}},
		{0, 0, "\x00\x01", "", api.Dfa{Next: [][]int{{0}, {1}}}},
		{-1, 0, "", "\x00", api.Dfa{Letters: -1, Final: []bool{false}}},
	}
	for _, c := range cases {
		if got := sample.Dfa(c.letters, c.start, c.rows, c.finals); !sample.EqualDfas(got, c.want) {
			t.Errorf("Dfa(%d, %d, %q, %q) = %v, want %v", c.letters, c.start, c.rows, c.finals, got, c.want)
		}
	}
}

// Ring goes round behind its first states.
func TestRing(t *testing.T) {
	cases := []struct {
		before, around int
		want           api.Dfa
	}{
		{0, 1, api.Dfa{Letters: 1, Next: [][]int{{0}}, Final: []bool{true}}},
		{0, 3, api.Dfa{Letters: 1, Next: [][]int{{1}, {2}, {0}}, Final: []bool{false, false, true}}},
		{1, 1, api.Dfa{Letters: 1, Next: [][]int{{1}, {1}}, Final: []bool{false, true}}},
		{2, 2, api.Dfa{Letters: 1, Next: [][]int{{1}, {2}, {3}, {2}}, Final: []bool{false, false, false, true}}},
	}
	for _, c := range cases {
		if got := sample.Ring(c.before, c.around); !sample.EqualDfas(got, c.want) {
			t.Errorf("Ring(%d, %d) = %v, want %v", c.before, c.around, got, c.want)
		}
	}
}

// Among accepts its words and no other ones, and begins with their beginnings.
func TestAmong(t *testing.T) {
	cases := []struct {
		letters int
		words   []string
		want    api.Dfa
	}{
		{1, nil, api.Dfa{Letters: 1, Next: [][]int{{1}, {1}}, Final: sample.Pluses("--")}},
		{2, []string{""}, api.Dfa{Letters: 2, Next: [][]int{{1, 1}, {1, 1}}, Final: sample.Pluses("+-")}},
		{2, []string{"10", "1", "10"}, api.Dfa{
			Letters: 2, Next: [][]int{{3, 1}, {2, 3}, {3, 3}, {3, 3}}, Final: sample.Pluses("-++-"),
		}},
		{3, []string{"02", "00"}, api.Dfa{
			Letters: 3, Next: [][]int{{1, 4, 4}, {3, 4, 2}, {4, 4, 4}, {4, 4, 4}, {4, 4, 4}}, Final: sample.Pluses("--++-"),
		}},
	}
	for _, c := range cases {
		if got := sample.Among(c.letters, c.words...); !sample.EqualDfas(got, c.want) {
			t.Errorf("Among(%d, %q) = %v, want %v", c.letters, c.words, got, c.want)
		}
	}
}

// Mixed is the same for the same seed, and another one for others, and has nothing but states.
func TestMixed(t *testing.T) {
	found := map[string]bool{}
	for seed := range uint64(100) {
		d := sample.Mixed(seed, 5, 3)
		if !sample.EqualDfas(d, sample.Mixed(seed, 5, 3)) {
			t.Errorf("Mixed(%d, 5, 3) is not always the same", seed)
		}
		if !isWhole(d, 5, 3) {
			t.Errorf("Mixed(%d, 5, 3) = %v", seed, d)
		}
		found[text(d)] = true
	}
	if len(found) != 100 {
		t.Errorf("there are %d automata of 100 seeds", len(found))
	}
	if d := sample.Mixed(3, 1, 1); !isWhole(d, 1, 1) {
		t.Errorf("Mixed(3, 1, 1) = %v", d)
	}
}

// OneFinal has the automaton of Mixed, and each of its states may be the final one.
func TestOneFinal(t *testing.T) {
	last := map[int]bool{}
	for seed := range uint64(100) {
		d, mixed := sample.OneFinal(seed, 5, 3), sample.Mixed(seed, 5, 3)
		finals := 0
		for s, is := range d.Final {
			if is {
				last[s] = true
				finals++
			}
		}
		mixed.Final = d.Final
		if !sample.EqualDfas(d, mixed) || finals != 1 {
			t.Errorf("OneFinal(%d, 5, 3) = %v", seed, d)
		}
	}
	if len(last) != 5 {
		t.Errorf("these states are final: %v", last)
	}
}

// NoneFinal, WithFinals and Started change one thing each, and nothing in the automaton that is given.
func TestOneThingChanged(t *testing.T) {
	d, none, others, started := twoStates(), twoStates(), twoStates(), twoStates()
	none.Final[0] = false
	others.Final[0], others.Final[1] = false, true
	started.Start = 0
	if got := sample.NoneFinal(d); !sample.EqualDfas(got, none) {
		t.Errorf("NoneFinal(%v) = %v", d, got)
	}
	if got := sample.WithFinals(d, "-+"); !sample.EqualDfas(got, others) {
		t.Errorf("WithFinals(%v) = %v", d, got)
	}
	if got := sample.Started(d, 0); !sample.EqualDfas(got, started) {
		t.Errorf("Started(%v, 0) = %v", d, got)
	}
	if !sample.EqualDfas(d, twoStates()) {
		t.Errorf("the automaton became %v", d)
	}
}

// Ways has what words lead to, and the state itself, from states that no word leads to as well.
func TestWays(t *testing.T) {
	cases := []struct {
		d    api.Dfa
		want []string
	}{
		{sample.Ring(0, 1), []string{"+"}},
		{sample.Ring(0, 3), []string{"+++", "+++", "+++"}},
		{sample.Ring(1, 2), []string{"+++", "-++", "-++"}},
		{sample.Started(sample.Ring(1, 2), 2), []string{"+++", "-++", "-++"}},
		{sample.Ring(3, 1), []string{"++++", "-+++", "--++", "---+"}},
		{twoStates(), []string{"++", "++"}},
		{api.Dfa{Letters: 2, Start: 2, Next: [][]int{{0, 0}, {3, 1}, {1, 0}, {3, 3}}}, []string{"+---", "-+-+", "++++", "---+"}},
	}
	for _, c := range cases {
		var want [][]bool
		for _, row := range c.want {
			want = append(want, sample.Pluses(row))
		}
		if got := sample.Ways(c.d); !slices.EqualFunc(got, want, slices.Equal) {
			t.Errorf("Ways(%v) = %v, want %v", c.d, got, want)
		}
	}
}

// Accepts follows the letters from the start, through more of them than MaxWord as well.
func TestAccepts(t *testing.T) {
	d := api.Dfa{Letters: 2, Start: 1, Next: [][]int{{0, 1}, {2, 1}, {0, 2}}, Final: sample.Pluses("+--")}
	cases := []struct {
		d    api.Dfa
		w    []int
		want bool
	}{
		{d, nil, false},
		{d, []int{0}, false},
		{d, []int{0, 0}, true},
		{d, []int{1, 0, 1, 0}, true},
		{d, []int{1, 0, 1, 0, 1}, false},
		{sample.Started(d, 0), nil, true},
		{sample.Ring(0, 3), sample.Repeated(200, 0), true},
		{sample.Ring(0, 3), sample.Repeated(201, 0), false},
	}
	for _, c := range cases {
		if got := sample.Accepts(c.d, c.w); got != c.want {
			t.Errorf("Accepts(%v, %v) = %v", c.d, c.w, got)
		}
	}
}

// Language has the accepted texts, and no other ones.
func TestLanguage(t *testing.T) {
	texts := sample.Texts(4, "\x00")
	got := sample.Language(sample.Started(sample.Ring(0, 3), 2), texts)
	want := map[string]bool{"": true, "\x00\x00\x00": true}
	if !maps.Equal(got, want) {
		t.Errorf("Language of %q = %v, want %v", texts, got, want)
	}
	if got := sample.Language(sample.NoneFinal(sample.Ring(0, 3)), texts); len(got) != 0 {
		t.Errorf("Language without a final state = %v", got)
	}
}

// isWhole tells whether an automaton has as many states and letters, and is one.
func isWhole(d api.Dfa, states, letters int) bool {
	if d.Letters != letters || d.Start < 0 || d.Start >= states || len(d.Next) != states || len(d.Final) != states {
		return false
	}
	for _, row := range d.Next {
		for _, s := range row {
			if s < 0 || s >= states {
				return false
			}
		}
		if len(row) != letters {
			return false
		}
	}
	return true
}

// text writes an automaton of less than ten states.
func text(d api.Dfa) string {
	s := strconv.Itoa(d.Start)
	for _, row := range d.Next {
		s += "|"
		for _, to := range row {
			s += strconv.Itoa(to)
		}
	}
	for _, is := range d.Final {
		s += strconv.FormatBool(is)
	}
	return s
}

// AllDfas has each automaton once.
func TestAllDfas(t *testing.T) {
	cases := []struct{ states, letters, want int }{
		{1, 1, 2},
		{1, 6, 2},
		{2, 1, 2 * 4 * 4},
		{2, 2, 2 * 16 * 4},
		{3, 1, 3 * 27 * 8},
	}
	for _, c := range cases {
		found := map[string]bool{}
		for _, d := range sample.AllDfas(c.states, c.letters) {
			if !isWhole(d, c.states, c.letters) {
				t.Errorf("AllDfas(%d, %d) has %v", c.states, c.letters, d)
			}
			found[text(d)] = true
		}
		if all := len(sample.AllDfas(c.states, c.letters)); all != c.want || len(found) != c.want {
			t.Errorf("AllDfas(%d, %d) has %d, of them %d different ones, want %d", c.states, c.letters, all, len(found), c.want)
		}
	}
}

// IsPart compares the words of two automata, of which all that there are here differ by short ones.
func TestIsPart(t *testing.T) {
	for letters := 1; letters <= 2; letters++ {
		texts := sample.Texts(4, sample.Bytes()[:letters])
		all := sample.AllDfas(2, letters)
		for i := 0; i < len(all); i += letters {
			for j := 0; j < len(all); j += 3 {
				want := true
				whole := sample.Language(all[j], texts)
				for text := range sample.Language(all[i], texts) {
					want = want && whole[text]
				}
				if got := sample.IsPart(all[i], all[j]); got != want {
					t.Errorf("IsPart(%v, %v) = %v", all[i], all[j], got)
				}
			}
		}
	}
	part, whole := sample.Ring(40, 41), sample.Ring(0, 1)
	if !sample.IsPart(part, whole) || sample.IsPart(whole, part) {
		t.Errorf("a word of 80 letters is none, or all words are that one")
	}
}

// CloneDfa has the same automaton in memory of its own.
func TestCloneDfa(t *testing.T) {
	d := twoStates()
	clone := sample.CloneDfa(d)
	if !sample.EqualDfas(d, clone) {
		t.Errorf("CloneDfa(%v) = %v", d, clone)
	}
	clone.Next[0][0], clone.Next[1], clone.Final[0] = 7, nil, false
	if !sample.EqualDfas(d, twoStates()) {
		t.Errorf("the automaton became %v", d)
	}
	if clone := sample.CloneDfa(api.Dfa{}); !sample.EqualDfas(clone, api.Dfa{}) {
		t.Errorf("CloneDfa of nothing = %v", clone)
	}
}

// EqualDfas sees each difference, and none between nil and empty lists.
func TestEqualDfas(t *testing.T) {
	if !sample.EqualDfas(twoStates(), twoStates()) {
		t.Errorf("an automaton does not equal itself")
	}
	if !sample.EqualDfas(api.Dfa{}, api.Dfa{Next: [][]int{}, Final: []bool{}}) {
		t.Errorf("nil lists do not equal empty ones")
	}
	changes := []func(d *api.Dfa){
		func(d *api.Dfa) { d.Letters = 2 },
		func(d *api.Dfa) { d.Start = 0 },
		func(d *api.Dfa) { d.Next[1][2] = 1 },
		func(d *api.Dfa) { d.Next[1] = d.Next[1][:2] },
		func(d *api.Dfa) { d.Next = d.Next[:1] },
		func(d *api.Dfa) { d.Final[0] = false },
		func(d *api.Dfa) { d.Final = d.Final[:1] },
	}
	for i, change := range changes {
		d := twoStates()
		change(&d)
		if sample.EqualDfas(d, twoStates()) || sample.EqualDfas(twoStates(), d) {
			t.Errorf("change %d is not seen", i)
		}
	}
}

// RoomyDfa has the automaton with memory behind it, and tells of each change.
func TestRoomyDfa(t *testing.T) {
	changes := []func(d api.Dfa){
		func(d api.Dfa) { d.Next[0][0]++ },
		func(d api.Dfa) { d.Next[1][2]++ },
		func(d api.Dfa) { d.Next[1][:4][3]++ },
		func(d api.Dfa) { d.Next[0] = append([]int{}, d.Next[0]...) },
		func(d api.Dfa) { d.Next[:3][2] = nil },
		func(d api.Dfa) { d.Next[:3][2][0]++ },
		func(d api.Dfa) { d.Final[1] = true },
		func(d api.Dfa) { d.Final[:3][2] = false },
	}
	for i, change := range changes {
		d, intact := sample.RoomyDfa(twoStates())
		if !sample.EqualDfas(d, twoStates()) || !intact() {
			t.Fatalf("RoomyDfa(%v) = %v, intact: %v", twoStates(), d, intact())
		}
		change(d)
		if intact() {
			t.Errorf("change %d is not seen", i)
		}
	}
	for _, c := range sample.DfaChecks() {
		if d, intact := sample.RoomyDfa(c.Dfa); !sample.EqualDfas(d, c.Dfa) || !intact() {
			t.Errorf("%s: RoomyDfa = %v, intact: %v", c.Name, d, intact())
		}
	}
}

// SpoilDfa tells of memory that is shared within an automaton and between two.
func TestSpoilDfa(t *testing.T) {
	d, e := twoStates(), twoStates()
	first, second := sample.SpoilDfa(d, -100), sample.SpoilDfa(e, -201)
	if !first() || !second() {
		t.Errorf("memory of two automata is said to be shared")
	}
	sharings := []struct {
		share  func(d, e *api.Dfa)
		shared bool
	}{
		{func(d, e *api.Dfa) { e.Next = d.Next }, true},
		{func(d, e *api.Dfa) { e.Next[0] = d.Next[1] }, true},
		{func(d, e *api.Dfa) { e.Next[1] = d.Next[1][:0] }, true},
		{func(d, e *api.Dfa) { e.Next[1] = append([]int{}, d.Next[1]...) }, false},
		{func(d, e *api.Dfa) { e.Next = append(d.Next[:1], e.Next[1]) }, true},
		{func(d, e *api.Dfa) { e.Final = d.Final }, true},
		{func(d, e *api.Dfa) { e.Final = d.Final[1:] }, true},
		{func(d, e *api.Dfa) { e.Final = d.Final[:0] }, true},
	}
	for i, c := range sharings {
		d, e := twoStates(), twoStates()
		c.share(&d, &e)
		intact := sample.SpoilDfa(d, -100)
		sample.SpoilDfa(e, -201)
		if intact() == c.shared {
			t.Errorf("sharing %d: two automata share memory: %v", i, !intact())
		}
	}
	d = twoStates()
	d.Next[1] = d.Next[0]
	if sample.SpoilDfa(d, -100)() {
		t.Errorf("a row that is another one is not seen")
	}
	d = twoStates()
	memory := []int{0, 0, 0, 0, 0, 0}
	d.Next[0], d.Next[1] = memory[:3], memory[3:]
	if sample.SpoilDfa(d, -100)() {
		t.Errorf("a row that is behind another one is not seen")
	}
	if !sample.SpoilDfa(api.Dfa{}, -100)() {
		t.Errorf("nothing is said to share memory")
	}
}

// MakesNew sees memory that is shared, results that change and errors.
func TestMakesNew(t *testing.T) {
	var kept api.Dfa
	calls := 0
	makers := []struct {
		maker func(d api.Dfa) (api.Dfa, error)
		new   bool
	}{
		{func(d api.Dfa) (api.Dfa, error) { return sample.CloneDfa(d), nil }, true},
		{func(d api.Dfa) (api.Dfa, error) { return twoStates(), nil }, true},
		{func(d api.Dfa) (api.Dfa, error) { return d, nil }, false},
		{func(d api.Dfa) (api.Dfa, error) {
			d.Next[0] = slices.Clone(d.Next[0])
			return sample.CloneDfa(d), nil
		}, false},
		{func(d api.Dfa) (api.Dfa, error) {
			given := d.Next[1]
			d = sample.CloneDfa(d)
			d.Next[1] = given
			return d, nil
		}, false},
		{func(d api.Dfa) (api.Dfa, error) {
			given := d.Final
			d = sample.CloneDfa(d)
			d.Final = given[:len(given):len(given)]
			return d, nil
		}, false},
		{func(d api.Dfa) (api.Dfa, error) {
			d = sample.CloneDfa(d)
			d.Next[1] = d.Next[0]
			return d, nil
		}, false},
		{func(d api.Dfa) (api.Dfa, error) {
			if kept.Letters == 0 {
				kept = twoStates()
			}
			d = sample.CloneDfa(d)
			d.Next[1] = kept.Next[1]
			return d, nil
		}, false},
		{func(d api.Dfa) (api.Dfa, error) {
			calls++
			return sample.Mixed(uint64(calls), 5, 3), nil
		}, false},
		{func(d api.Dfa) (api.Dfa, error) { return sample.CloneDfa(d), api.ErrNone }, false},
	}
	for i, c := range makers {
		if sample.MakesNew(twoStates(), c.maker) != c.new {
			t.Errorf("function %d: MakesNew = %v", i, !c.new)
		}
	}
}

// WordsAreNew sees memory that is shared, results that change, errors and words without letters.
func TestWordsAreNew(t *testing.T) {
	kept := []int{0, 1, 2}
	calls := 0
	cases := []struct {
		word func(a, b api.Dfa) ([]int, error)
		new  bool
	}{
		{func(a, b api.Dfa) ([]int, error) { return []int{0, 1}, nil }, true},
		{func(a, b api.Dfa) ([]int, error) { return slices.Clone(a.Next[0]), nil }, true},
		{func(a, b api.Dfa) ([]int, error) { return a.Next[1], nil }, false},
		{func(a, b api.Dfa) ([]int, error) { return b.Next[0][:1:1], nil }, false},
		{func(a, b api.Dfa) ([]int, error) { return b.Next[0][1:], nil }, false},
		{func(a, b api.Dfa) ([]int, error) {
			a.Next[0] = slices.Clone(a.Next[0])
			return []int{0, 1}, nil
		}, false},
		{func(a, b api.Dfa) ([]int, error) {
			b.Final[0] = true
			return []int{0, 1}, nil
		}, false},
		{func(a, b api.Dfa) ([]int, error) { return kept, nil }, false},
		{func(a, b api.Dfa) ([]int, error) {
			// There is room behind each, where the letter of the other one is.
			calls++
			return append(kept[calls%2:calls%2], 5), nil
		}, false},
		{func(a, b api.Dfa) ([]int, error) {
			calls++
			return []int{calls}, nil
		}, false},
		{func(a, b api.Dfa) ([]int, error) { return []int{0, 1}, api.ErrNone }, false},
		{func(a, b api.Dfa) ([]int, error) { return nil, nil }, false},
	}
	for i, c := range cases {
		if sample.WordsAreNew(twoStates(), sample.Ring(1, 2), c.word) != c.new {
			t.Errorf("function %d: WordsAreNew = %v", i, !c.new)
		}
	}
}

// DfaChecks has automata with each error of dfa.Check and with none, each under a name of its own.
func TestDfaChecks(t *testing.T) {
	names := map[string]bool{}
	found := map[api.Errno]int{}
	for _, c := range sample.DfaChecks() {
		if names[c.Name] {
			t.Errorf("two automata have the name %q", c.Name)
		}
		names[c.Name] = true
		found[c.Want]++
		if c.Want == api.OK && !isWhole(c.Dfa, len(c.Dfa.Next), c.Dfa.Letters) {
			t.Errorf("%s: the automaton is %v", c.Name, c.Dfa)
		}
	}
	if len(found) != 4 || found[api.OK] == 0 || found[api.ErrRange] == 0 || found[api.ErrFull] == 0 || found[api.ErrShape] == 0 {
		t.Errorf("the automata have these errors: %v", found)
	}
}

// DfaPairs has pairs with each error of dfa.Check, each under a name of its own.
func TestDfaPairs(t *testing.T) {
	names := map[string]bool{}
	found := map[api.Errno]int{}
	for _, c := range sample.DfaPairs() {
		if names[c.Name] {
			t.Errorf("two pairs have the name %q", c.Name)
		}
		names[c.Name] = true
		found[c.Want]++
	}
	if len(found) != 3 || found[api.ErrRange] == 0 || found[api.ErrFull] == 0 || found[api.ErrShape] == 0 {
		t.Errorf("the pairs have these errors: %v", found)
	}
}

// LongDfas has a long list in each automaton.
func TestLongDfas(t *testing.T) {
	for _, c := range sample.LongDfas() {
		longest := max(len(c.Dfa.Next), len(c.Dfa.Final))
		if len(c.Dfa.Next) == 1 {
			longest = max(longest, len(c.Dfa.Next[0]))
		}
		if longest < 1<<24 || c.Want == api.OK {
			t.Errorf("%s: the longest list has %d elements, and the error is %v", c.Name, longest, c.Want)
		}
	}
}
