package super_test

import (
	"math"
	"slices"
	"strings"
	"testing"

	"stileward/api"
	"stileward/dfa"
	"stileward/duel"
	"stileward/plain"
	"stileward/reach"
	"stileward/safe"
	"stileward/sample"
	"stileward/small"
	"stileward/super"
)

// check demands of both functions some answers.
func check(t *testing.T, plant, d api.Dfa, free int, want answers) {
	t.Helper()
	kept, first, err := super.Kept(plant, d, free)
	if kept != want.kept || !slices.Equal(first, want.first) || plain.Told(err) != want.noKept {
		t.Errorf("Kept(%v, %v, %d) = %v, %v, %v, want %v, %v, %v", plant, d, free, kept, first, err, want.kept, want.first, want.noKept)
	}
	most, err := super.Make(plant, d, free)
	if !sample.EqualDfas(most, want.most) || plain.Told(err) != want.noMost {
		t.Errorf("Make(%v, %v, %d) = %v, %v, want %v, %v", plant, d, free, most, err, want.most, want.noMost)
	}
}

// checkSlowly demands of the slow way the same answers.
func checkSlowly(t *testing.T, plant, d api.Dfa, free int, want answers) {
	t.Helper()
	slow := slowly(plant, d, free)
	if slow.kept != want.kept || !slices.Equal(slow.first, want.first) || !sample.EqualDfas(slow.most, want.most) ||
		slow.noKept != want.noKept || slow.noMost != want.noMost {
		t.Errorf("for %v, %v and %d, the slow way finds %v, want %v", plant, d, free, slow, want)
	}
}

// made returns what is made of an automaton without an error.
func made(t *testing.T, d api.Dfa, maker func(d api.Dfa) (api.Dfa, error)) api.Dfa {
	t.Helper()
	got, err := maker(d)
	if err != nil {
		t.Fatalf("there is the error %v for %v", err, d)
	}
	return got
}

// minimal returns the least automaton that accepts the same.
func minimal(t *testing.T, d api.Dfa) api.Dfa {
	t.Helper()
	return made(t, d, small.Minimal)
}

// accepted returns the automaton of what both accept, if there are not too many pairs.
func accepted(plant, spec api.Dfa) (api.Dfa, bool) {
	both, err := dfa.Both(plant, spec)
	return both, err == nil
}

// example is a plant and a policy of three letters by their words, what is free, the first word
// that leads out (- if none does), and the words of the most that can be kept.
type example struct {
	name        string
	plant, spec string
	free        string
	first       string
	most        string
}

// ofKept are examples in which all that both accept can be kept, if there is something.
func ofKept() []example {
	return []example{
		{"all that the plant does", "0 01 2", "0 01 2", "012", "-", "0 01 2"},
		{"the empty word alone", ".", ".", "012", "-", "."},
		{"nothing is free", ". 0 01 2", ". 0", "", "-", ". 0"},
		{"what is not free is held back", ". 01 2", ".", "1", "-", "."},
		{"what is free does not come there", "01 11 2", "01 11", "01", "-", "01 11"},
		{"the plant does nothing", "", "0 01", "012", "-", ""},
		{"nothing is allowed", "0 01", "", "012", "-", ""},
		{"neither does anything", "", "", "012", "-", ""},
		{"what the plant does not do", "01 1", "01 02 1 2", "012", "-", "01 1"},
		{"only beginnings are the same", "01 02", "010 020", "012", "-", ""},
		{"a beginning goes on elsewhere", "01 1", "02 1", "2", "-", "1"},
		{"a beginning goes on elsewhere, and is free", "01 1", "02 1", "0", "-", ""},
		{"no word of the plant begins so", "0", "1", "1", "-", ""},
	}
}

// ofLeft are examples in which something leads out.
func ofLeft() []example {
	return []example{
		{"the first letter", ". 0", ".", "0", "0", ""},
		{"the second letter", "01 02", "01", "2", "02", ""},
		{"the second letter, and another word", "01 02 1", "01 1", "2", "02", "1"},
		{"the second letter, and the empty word", ". 01 02", ". 01", "2", "02", "."},
		{"the second letter, and the word ahead of it", "0 01 02", "0 01", "2", "02", ""},
		{"the word ahead counts where it has to go on", "0 01 02", "0", "12", "01", ""},
		{"the third letter, and the word ahead of both", ". 0 011 012", ". 0 011", "2", "012", ". 0"},
		{"the third letter, and no word of one", ". 011 012", ". 011", "2", "012", "."},
		{"the third letter, and no word of one that is held back", ". 011 012", ". 011", "02", "012", ""},
		{"a beginning of the plant's word", "012", "0", "1", "01", ""},
		{"a beginning of another word than allowed", ". 012 00", ". 00", "1", "01", "."},
		{"no word of the policy begins so", "0", "1", "0", "0", ""},
		{"the empty word is no word of the plant", "1", ".", "1", "1", ""},
		{"the smaller letter", ". 0 1 2", ".", "12", "1", ""},
		{"the shorter word", ". 2 00 0", ". 0", "02", "2", ""},
		{"the shorter word, though found in a greater one", ". 20 011 01 2", ". 01 2", "01", "20", ""},
		{"the first word of three", ". 1 11 12 21 0 01 02", ". 0 1 2", "12", "01", ""},
		{"the first of two as long", ". 12 02 0 1", ". 0 1", "2", "02", "."},
		{"behind what the plant alone accepts", ". 0 01", ". 01 00", "01", "-", ". 01"},
		{"behind what the policy alone accepts", ". 01 02 2", ". 0 01 2", "2", "02", ". 2"},
		{"what is behind what is free, and leads out", ". 0 012 01 1", ". 0 01 1", "02", "012", ". 0 1"},
		{"free to go on well or not", ". 00 01 02 1", ". 00 01 1", "012", "02", ""},
		{"free to go on well alone", ". 00 01 02 1", ". 00 01 1", "1", "-", ". 00 01 1"},
	}
}

// 20.1, 20.2: whether what is allowed can be kept, the first word that leads out of it, and the
// most that can be kept.
func TestExamples(t *testing.T) {
	for _, c := range slices.Concat(ofKept(), ofLeft()) {
		t.Run(c.name, func(t *testing.T) {
			want := answers{kept: c.first == "-", most: minimal(t, sample.Among(3, sample.Split(c.most)...))}
			if !want.kept {
				want.first = sample.Digits(c.first)
			}
			if c.most == "" {
				want.most, want.noMost = api.Dfa{}, api.ErrNone
			}
			plant, spec := sample.Among(3, sample.Split(c.plant)...), sample.Among(3, sample.Split(c.spec)...)
			checkSlowly(t, plant, spec, sample.SetOf(c.free), want)
			check(t, plant, spec, sample.SetOf(c.free), want)
		})
	}
}

// machines are two machines that work on one part after another: letter 0 starts the first one
// and 1 ends its work, and 2 and 3 are those of the second one. In the end both rest.
func machines() api.Dfa {
	return api.Dfa{
		Letters: 4,
		Next:    [][]int{{1, 4, 2, 4}, {4, 0, 3, 4}, {3, 4, 4, 0}, {4, 2, 4, 1}, {4, 4, 4, 4}},
		Final:   sample.Pluses("+----"),
	}
}

// shelf has room for one part that the first machine has made and the second one has not
// begun. In the end it is empty.
func shelf() api.Dfa {
	return api.Dfa{
		Letters: 4,
		Next:    [][]int{{0, 1, 2, 0}, {1, 2, 0, 1}, {2, 2, 2, 2}},
		Final:   sample.Pluses("+--"),
	}
}

// 20.1, 20.2: what machines make and cannot be held back in the making must find room, so
// none is begun where there may be no room when it ends.
func TestMachines(t *testing.T) {
	// There are as many states as there are ways to work, rest and have a part on the shelf,
	// but for those in which the first machine works and there is a part.
	careful := api.Dfa{
		Letters: 4,
		Next: [][]int{
			{1, 2, 2, 2}, {2, 3, 2, 2}, {2, 2, 2, 2}, {2, 2, 4, 2}, {5, 2, 2, 0}, {2, 6, 2, 1}, {2, 2, 2, 3},
		},
		Final: sample.Pluses("+------"),
	}
	cases := []struct {
		free string
		want answers
	}{
		{"1", answers{first: []int{0, 1, 0, 1}, most: careful}},
		{"13", answers{first: []int{0, 1, 0, 1}, most: careful}},
		{"12", answers{first: []int{2}, noMost: api.ErrNone}},
		{"01", answers{first: []int{0, 1, 0, 1}, noMost: api.ErrNone}},
	}
	for _, c := range cases {
		checkSlowly(t, machines(), shelf(), sample.SetOf(c.free), c.want)
		check(t, machines(), shelf(), sample.SetOf(c.free), c.want)
	}
	both, _ := accepted(machines(), shelf())
	want := answers{kept: true, most: minimal(t, both)}
	for _, free := range []string{"", "3", "0", "03"} {
		check(t, machines(), shelf(), sample.SetOf(free), want)
	}
	want.most = careful
	for _, free := range []string{"1", "13", "3", ""} {
		check(t, machines(), careful, sample.SetOf(free), want)
	}
}

// begins tells whether one of some words begins so.
func begins(words []string, beginning string) bool {
	return slices.ContainsFunc(words, func(w string) bool { return strings.HasPrefix(w, beginning) })
}

// leavesAt returns the first of some words, given in the order of word.Less, for which the
// words of the chapter say that it leads out of what a set of words begins.
func leavesAt(all, plant, words []string, free int) (string, bool) {
	for _, w := range all[1:] {
		last := len(w) - 1
		if begins(plant, w) && sample.Has(free, int(w[last]-'0')) && !begins(words, w) && begins(words, w[:last]) {
			return w, true
		}
	}
	return "", false
}

// 20.1, 20.2: of all sets of words that both accept, the functions find which ones are kept, and
// the largest one of these.
func TestWords(t *testing.T) {
	all := sample.Texts(3, "01")
	kept, none := 0, 0
	for seed := range uint64(1500) {
		below := sample.Below(seed)
		of := 1 + below(3)
		plant, spec := sample.Some(below, all, of), sample.Some(below, all, 2)
		free := below(4)
		common := slices.DeleteFunc(slices.Clone(plant), func(w string) bool { return !slices.Contains(spec, w) })
		if len(common) > 7 {
			continue // There would be too many sets.
		}
		most := checkSubsets(t, all, plant, common, free)
		want := answers{most: minimal(t, sample.Among(2, most...))}
		if len(most) == 0 {
			want.most, want.noMost = api.Dfa{}, api.ErrNone
			none++
		}
		w, leaves := leavesAt(all, plant, spec, free)
		want.kept, want.first = !leaves, sample.Digits(w)
		if len(most) > 0 && len(most) < len(common) {
			kept++
		}
		check(t, sample.Among(2, plant...), sample.Among(2, spec...), free, want)
	}
	if kept < 100 || none < 100 {
		t.Errorf("a part of the words can be kept %d times, and none %d times", kept, none)
	}
}

// checkSubsets demands of Kept the right answers for all sets of some words, and returns the
// words of all of them that are kept. These are kept together.
func checkSubsets(t *testing.T, all, plant, common []string, free int) []string {
	t.Helper()
	in := map[string]bool{}
	for set := range 1 << len(common) {
		var words []string
		for i, w := range common {
			if sample.Has(set, i) {
				words = append(words, w)
			}
		}
		want, leaves := leavesAt(all, plant, words, free)
		kept, w, err := super.Kept(sample.Among(2, plant...), sample.Among(2, words...), free)
		if kept == leaves || !slices.Equal(w, sample.Digits(want)) || err != nil {
			t.Errorf("Kept(%q, %q, %d) = %v, %v, %v, want %v, %v", plant, words, free, kept, w, err, !leaves, want)
		}
		for _, w := range words {
			in[w] = in[w] || !leaves
		}
	}
	most := slices.DeleteFunc(slices.Clone(common), func(w string) bool { return !in[w] })
	if w, leaves := leavesAt(all, plant, most, free); leaves {
		t.Errorf("of %q, %q leads out of %q together", plant, w, most)
	}
	return most
}

// 20.1, 20.2: for small automata, all of some sizes and every few of others, and all sets of
// letters, the functions do what the words of the chapter say.
func TestAll(t *testing.T) {
	for _, c := range []struct{ plants, specs, letters, step int }{
		{1, 1, 1, 1}, {1, 1, 3, 1}, {1, 2, 1, 1}, {2, 1, 2, 1}, {2, 2, 1, 1}, {2, 2, 2, 7}, {1, 3, 2, 5}, {3, 2, 1, 5}, {3, 3, 1, 151}, {3, 2, 2, 4001},
	} {
		plants, specs := sample.AllDfas(c.plants, c.letters), sample.AllDfas(c.specs, c.letters)
		for i := 0; i < len(plants)*len(specs); i += c.step {
			plant, spec := plants[i/len(specs)], specs[i%len(specs)]
			for free := range 1 << c.letters {
				check(t, plant, spec, free, slowly(plant, spec, free))
			}
		}
	}
}

// torn returns an automaton with some letters replaced by ones that lead to its last state, behind
// which nothing is accepted. It depends on the letter how many these are.
func torn(d api.Dfa, tears func(letter int) bool) api.Dfa {
	d = sample.CloneDfa(d)
	last := len(d.Next) - 1
	for _, row := range d.Next {
		for letter := range row {
			if tears(letter) {
				row[letter] = last
			}
		}
	}
	sample.Fill(d.Next[last], last)
	d.Final[last] = false
	return d
}

// mixed returns a plant, a policy and a set of letters out of the numbers of sample.Below. In every
// other case, the policy is a part of what the plant does, with as many states.
func mixed(seed uint64) (plant, spec api.Dfa, free int) {
	below := sample.Below(seed + 1)
	letters := 6 - min(below(6), below(6))
	free = 1<<below(letters) | below(1<<letters)&below(1<<letters)
	tears := func(letter int) bool { return sample.Has(free, letter) && below(2) > 0 || below(20) == 0 }
	if seed%2 == 0 {
		plant = torn(sample.Started(sample.Mixed(seed, 2+below(39), letters), 0), tears)
		of := 3 + below(30)
		return plant, torn(plant, func(int) bool { return below(of) == 0 }), free
	}
	plant = torn(sample.Started(sample.Mixed(seed, 3+below(4), letters), 0), tears)
	spec = sample.Started(sample.Mixed(seed+1, 2+below(6), letters), 0)
	return plant, torn(spec, func(int) bool { return below(12) == 0 }), free
}

// 20.1, 20.2: for automata of all sizes and sets of all sizes, the functions do what the words of
// the chapter say.
func TestMixed(t *testing.T) {
	found, states, lengths, parts := map[api.Errno]int{}, map[int]int{}, map[int]int{}, 0
	for seed := range uint64(4000) {
		plant, spec, free := mixed(seed)
		want := slowly(plant, spec, free)
		check(t, plant, spec, free, want)
		if both, is := accepted(plant, spec); is && want.noMost == api.OK && !sample.EqualDfas(want.most, minimal(t, both)) {
			parts++
		}
		found[want.noMost]++
		states[len(want.most.Next)/5]++
		lengths[len(want.first)]++
	}
	for _, e := range []api.Errno{api.OK, api.ErrFull, api.ErrNone} {
		if found[e] < 300 {
			t.Errorf("the errors are as often as %v", found)
		}
	}
	if parts < 300 {
		t.Errorf("a part of what both accept can be kept %d times", parts)
	}
	for n := range 5 {
		if states[n] < 20 || lengths[n] < 20 {
			t.Errorf("as many fives of states are as often as %v, and as long words as %v", states, lengths)
		}
	}
}

// 20.2: what is made is kept, and both accept it; it holds every part of what both accept that is
// kept; and it is left as it is if it is made again.
func TestMost(t *testing.T) {
	kept := 0
	for seed := range uint64(2000) {
		plant, spec, free := mixed(seed)
		both, is := accepted(plant, spec)
		if !is {
			continue
		}
		most, err := super.Make(plant, spec, free)
		if err == nil {
			isKept, w, wrong := super.Kept(plant, most, free)
			if !isKept || w != nil || wrong != nil || !sample.IsPart(most, both) {
				t.Errorf("Make(%v, %v, %d) = %v; Kept of it = %v, %v, %v", plant, spec, free, most, isKept, w, wrong)
			}
			again, wrong := super.Make(plant, most, free)
			if !sample.EqualDfas(again, most) || wrong != nil {
				t.Errorf("Make(%v, %v, %d) = %v, and of that %v, %v", plant, spec, free, most, again, wrong)
			}
		}
		kept += checkParts(t, plant, both, free, most, err)
	}
	if kept < 200 {
		t.Errorf("%d smaller parts are kept", kept)
	}
}

// checkParts demands that parts of what both accept are parts of the most if they are kept, and
// tells how many are that are smaller.
func checkParts(t *testing.T, plant, both api.Dfa, free int, most api.Dfa, err error) int {
	t.Helper()
	smaller := 0
	for seed := range uint64(6) {
		below := sample.Below(seed)
		less := torn(both, func(int) bool { return below(6) == 0 })
		if _, none := reach.First(less); none != nil || !sample.IsPart(less, both) {
			continue
		}
		isKept, _, wrong := super.Kept(plant, less, free)
		if isKept && (err != nil || !sample.IsPart(less, most)) || wrong != nil {
			t.Errorf("of %v and %v, %d, %v is kept but no part of %v, %v", plant, both, free, less, most, err)
		}
		if isKept && err == nil && !sample.IsPart(most, less) {
			smaller++
		}
	}
	return smaller
}

// 20.1, 20.2: if nothing is free, all that both accept can be kept. If all is, this is so if it
// begins with all with which the plant's words begin, and nothing can be kept otherwise.
func TestNoneAndAllFree(t *testing.T) {
	whole, none := 0, 0
	for seed := range uint64(2000) {
		plant, spec, _ := mixed(seed)
		if seed%3 == 0 {
			// In most cases, all begins as before.
			spec = sample.CloneDfa(plant)
			spec.Final[sample.Below(seed)(len(spec.Final))] = false
		}
		both, is := accepted(plant, spec)
		if !is {
			continue
		}
		if _, err := reach.First(both); err != nil {
			check(t, plant, both, 0, answers{kept: true, noMost: api.ErrNone})
			check(t, plant, both, 1<<plant.Letters-1, answers{kept: true, noMost: api.ErrNone})
			none++
			continue
		}
		check(t, plant, both, 0, answers{kept: true, most: minimal(t, both)})
		same, w, err := small.Same(made(t, plant, safe.Prefixes), made(t, both, safe.Prefixes))
		want := answers{first: w, noMost: api.ErrNone}
		if same {
			want = answers{kept: true, most: minimal(t, both)}
			whole++
		}
		if err != nil {
			t.Errorf("Same of what begins %v and %v has the error %v", plant, both, err)
		}
		check(t, plant, both, 1<<plant.Letters-1, want)
	}
	if whole < 100 || none < 100 {
		t.Errorf("all can be kept %d times, and there is nothing to be kept %d times", whole, none)
	}
}

// 20.1, 20.2: of more letters that are free, less can be kept; and of more that is allowed, more.
func TestMoreFree(t *testing.T) {
	less := 0
	for seed := range uint64(1500) {
		plant, spec, free := mixed(seed)
		most, err := super.Make(plant, spec, free)
		if plain.Told(err) == api.ErrFull {
			continue
		}
		for letter := range plant.Letters {
			part, wrong := super.Make(plant, spec, free|1<<letter)
			if err != nil && wrong == nil || wrong == nil && !sample.IsPart(part, most) {
				t.Errorf("Make(%v, %v, %d) = %v, %v, and if %d is free %v, %v", plant, spec, free, most, err, letter, part, wrong)
			}
			if wrong == nil && !sample.EqualDfas(part, most) {
				less++
			}
		}
		more := sample.CloneDfa(spec)
		more.Final[sample.Below(seed+6)(len(more.Final))] = true
		whole, wrong := super.Make(plant, more, free)
		if err == nil && (wrong != nil || !sample.IsPart(most, whole)) {
			t.Errorf("Make(%v, %v, %d) = %v, and of %v %v, %v", plant, spec, free, most, more, whole, wrong)
		}
	}
	if less < 100 {
		t.Errorf("less can be kept %d times", less)
	}
}

// ended returns an automaton in which all states are final but the last one.
func ended(d api.Dfa) api.Dfa {
	d.Final = slices.Repeat([]bool{true}, len(d.Final))
	d.Final[len(d.Final)-1] = false
	return d
}

// 20.2: if all beginnings are accepted, what cannot be kept is that from which one who moves by
// free letters alone comes to where nothing is allowed.
func TestDuels(t *testing.T) {
	lost := 0
	for seed := range uint64(1500) {
		plant, spec, free := mixed(seed)
		plant, spec = ended(plant), ended(spec)
		x := newSides(plant, spec, free)
		all := x.duos()
		if len(all) > 40 {
			continue
		}
		ranks, err := duel.Ranks(x.arena(all))
		if err != nil {
			t.Fatalf("of %v and %v there is no arena: %v", plant, spec, err)
		}
		left, want := map[duo]bool{}, answers{}
		for at, p := range all {
			left[p] = ranks[at] < 0
		}
		if left[all[0]] && x.produces[plant.Start] {
			want.most = minimal(t, x.through(all, left))
		} else {
			want.noMost = api.ErrNone
		}
		most, err := super.Make(plant, spec, free)
		if !sample.EqualDfas(most, want.most) || plain.Told(err) != want.noMost {
			t.Errorf("Make(%v, %v, %d) = %v, %v, want %v, %v", plant, spec, free, most, err, want.most, want.noMost)
		}
		if slices.Max(ranks) > 1 && ranks[0] < 0 {
			lost++
		}
	}
	if lost < 50 {
		t.Errorf("more is lost than where nothing is allowed %d times", lost)
	}
}

// arena returns the arena of the pairs in which 0 moves by the free letters by which the plant
// may go, and wants to come to where the plant may be and nothing is allowed.
func (x sides) arena(all []duo) api.Arena {
	a := api.Arena{}
	for at, p := range all {
		row := []int{at}
		for letter := range x.plant.Letters {
			if next := x.by(p, letter); sample.Has(x.free, letter) && x.produces[next.s] {
				row = append(row, slices.Index(all, next))
			}
		}
		a.Owner = append(a.Owner, 0)
		a.Next = append(a.Next, row)
		a.Goal = append(a.Goal, x.produces[p.s] && !x.begun[p.t])
	}
	return a
}

// round returns the automaton of two letters that goes round through some states by both, but
// leads by 1 from some of them to one more, behind which nothing is accepted.
func round(around int, leaves func(s int) bool) api.Dfa {
	d := api.Dfa{Letters: 2}
	for s := range around {
		next := (s + 1) % around
		d.Next = append(d.Next, []int{next, next})
		if leaves(s) {
			d.Next[s][1] = around
		}
	}
	d.Next = append(d.Next, []int{around, around})
	return ended(sample.WithFinals(d, strings.Repeat("+", around+1)))
}

// 20.1: the first word that leads out may be of any length: it may go through all pairs.
func TestLongWords(t *testing.T) {
	longest := 0
	for around := 1; around <= 39; around++ {
		for other := 1 + (around+1)%3; other <= 39; other += 3 {
			plant := round(around, func(s int) bool { return s < around-1 })
			d := round(other, func(s int) bool { return s == other-1 })
			length := around
			for length%other > 0 {
				length += around
			}
			want := append(sample.Repeated(length-1, 0), 1)
			longest = max(longest, length)
			if kept, w, err := super.Kept(plant, d, 1<<1); kept || !slices.Equal(w, want) || err != nil {
				t.Errorf("Kept of %d and %d = %v, %v, %v, want %v", around, other, kept, w, err, want)
			}
			if kept, w, err := super.Kept(plant, d, 1<<0); !kept || w != nil || err != nil {
				t.Errorf("Kept of %d and %d = %v, %v, %v", around, other, kept, w, err)
			}
		}
	}
	if longest != 39*38 {
		t.Errorf("the longest word has %d letters", longest)
	}
}

// prefixes returns the beginnings of a text with at most as many letters.
func prefixes(text string, most int) []string {
	var all []string
	for n := range most + 1 {
		all = append(all, text[:n])
	}
	return all
}

// 20.2: what is lost at the end of a word of any length is lost up to the last letter that can be
// held back, and if there is none, all is.
func TestLongWays(t *testing.T) {
	for length := 1; length <= 38; length++ {
		for held := -1; held < length; held++ {
			text := strings.Repeat("0", length)
			if held >= 0 {
				text = text[:held] + "1" + text[held+1:]
			}
			want := answers{first: sample.Digits(text), noMost: api.ErrNone}
			if held >= 0 {
				want.most, want.noMost = minimal(t, sample.Among(2, prefixes(text, held)...)), api.OK
			}
			if held == length-1 {
				want.kept, want.first = true, nil
			}
			check(t, sample.Among(2, prefixes(text, length)...), sample.Among(2, prefixes(text, length-1)...), 1<<0, want)
		}
	}
}

// 20.2: there may be 40 pairs of states, but not 41, whether or not they are needed; for Kept
// there may be more.
func TestFull(t *testing.T) {
	every := func(d api.Dfa) api.Dfa { return sample.WithFinals(d, strings.Repeat("+", len(d.Next))) }
	whole := answers{kept: true, most: sample.Ring(0, 1)}
	none := answers{kept: true, noMost: api.ErrNone}
	full := answers{kept: true, noMost: api.ErrFull}
	cases := []struct {
		plant, spec api.Dfa
		want        answers
	}{
		{every(sample.Ring(0, 5)), every(sample.Ring(0, 8)), whole},
		{every(sample.Ring(0, 8)), every(sample.Ring(0, 5)), whole},
		{every(sample.Ring(1, 5)), every(sample.Ring(0, 8)), full},
		{every(sample.Ring(0, 8)), every(sample.Ring(1, 5)), full},
		{every(sample.Ring(0, 40)), every(sample.Ring(0, 40)), whole},
		{every(sample.Ring(0, 40)), every(sample.Ring(1, 39)), full},
		{every(sample.Ring(0, 40)), every(sample.Ring(0, 39)), full},
		{every(sample.Ring(39, 1)), every(sample.Ring(0, 1)), whole},
		{every(sample.Ring(39, 1)), every(sample.Ring(0, 2)), full},
		{sample.NoneFinal(sample.Ring(0, 5)), every(sample.Ring(0, 8)), none},
		{sample.NoneFinal(sample.Ring(1, 5)), every(sample.Ring(0, 8)), full},
		{every(sample.Ring(0, 5)), sample.NoneFinal(sample.Ring(0, 8)), none},
		{every(sample.Ring(1, 5)), sample.NoneFinal(sample.Ring(0, 8)), full},
	}
	for _, c := range cases {
		for free := range 2 {
			checkSlowly(t, c.plant, c.spec, free, c.want)
			check(t, c.plant, c.spec, free, c.want)
		}
	}
}

// 20.1: free is a set of letters, whatever can be kept.
func TestFree(t *testing.T) {
	for letters := 1; letters <= 6; letters++ {
		whole := sample.Mixed(1, 1, letters)
		whole.Final[0] = true
		good := answers{kept: true, most: whole}
		for free := range 1 << letters {
			check(t, whole, whole, free, good)
		}
		for _, free := range []int{-1, -2, 1 << letters, 1<<letters + 1, 1 << 32, 1<<32 + 1, math.MinInt, math.MaxInt} {
			for _, d := range []api.Dfa{whole, sample.NoneFinal(whole)} {
				check(t, d, whole, free, answers{noKept: api.ErrRange, noMost: api.ErrRange})
				check(t, whole, d, free, answers{noKept: api.ErrRange, noMost: api.ErrRange})
			}
		}
	}
}

// 20.1: each letter counts for itself, be it the only one that is free, or the only one that is not.
func TestLetters(t *testing.T) {
	for letters := 1; letters <= 6; letters++ {
		for letter := range letters {
			plant := sample.Mixed(1, 1, letters)
			plant.Final[0] = true
			row := sample.Replaced(sample.Repeated(letters, 0), letter, 1)
			spec := api.Dfa{Letters: letters, Next: [][]int{row, sample.Repeated(letters, 1)}, Final: sample.Pluses("+-")}
			lost := answers{first: []int{letter}, noMost: api.ErrNone}
			held := answers{kept: true, most: spec}
			check(t, plant, spec, 1<<letter, lost)
			check(t, plant, spec, 1<<letters-1, lost)
			check(t, plant, spec, 1<<letters-1-1<<letter, held)
			check(t, plant, spec, 0, held)
		}
	}
}

// 20.1, 20.2: states that no word leads to do not count, nor do their letters.
func TestUnreached(t *testing.T) {
	for seed := range uint64(300) {
		plant, spec, free := mixed(seed)
		want := slowly(plant, spec, free)
		if len(plant.Next) > 20 || len(spec.Next) > 20 {
			continue
		}
		check(t, beside(seed, plant), beside(seed+1, spec), free, want)
	}
}

// beside returns an automaton with other states ahead of its own that lead there, and begin anything.
func beside(seed uint64, d api.Dfa) api.Dfa {
	more := sample.Mixed(seed, 20, d.Letters)
	states := len(d.Next)
	for s, row := range d.Next {
		for letter := range row {
			more.Next[20-states+s][letter] = 20 - states + row[letter]
		}
		more.Final[20-states+s] = d.Final[s]
	}
	more.Start = 20 - states + d.Start
	return more
}

// 20.1, 20.2: the errors of both automata are those of dfa.Check, and with an error there is nothing else.
func TestErrors(t *testing.T) {
	for i, c := range sample.DfaChecks() {
		other := sample.Mixed(uint64(i), 1+i%3, max(1, min(c.Dfa.Letters, 6)))
		for _, free := range []int{-1, 0, 1, 2, 63, 64} {
			for _, pair := range [][2]api.Dfa{{c.Dfa, other}, {other, c.Dfa}, {c.Dfa, c.Dfa}} {
				want := slowly(pair[0], pair[1], free)
				if c.Want != api.OK && (want.noKept != c.Want || want.noMost != c.Want) {
					t.Fatalf("%s: the slow way finds %v, want %v", c.Name, want, c.Want)
				}
				check(t, pair[0], pair[1], free, want)
			}
		}
	}
	for _, c := range sample.DfaPairs() {
		for _, free := range []int{-1, 0, 1, 2, 64} {
			check(t, c.A, c.B, free, answers{noKept: c.Want, noMost: c.Want})
		}
	}
}

// 20.1, 20.2: of several errors, the first one is returned.
func TestFirstError(t *testing.T) {
	short, outside := sample.Ring(0, 3), sample.Started(sample.Ring(0, 3), 3)
	short.Final = nil
	none, wide := sample.NoneFinal(sample.Ring(0, 7)), sample.Mixed(1, 8, 2)
	cases := []struct {
		plant, spec    api.Dfa
		free           int
		noKept, noMost api.Errno
	}{
		{short, outside, -1, api.ErrShape, api.ErrShape},
		{outside, short, -1, api.ErrRange, api.ErrRange},
		{none, short, -1, api.ErrShape, api.ErrShape},
		{wide, short, -1, api.ErrShape, api.ErrShape},
		{wide, sample.Ring(0, 41), -1, api.ErrFull, api.ErrFull},
		{wide, outside, 4, api.ErrRange, api.ErrRange},
		{wide, none, -1, api.ErrShape, api.ErrShape},
		{none, wide, 4, api.ErrShape, api.ErrShape},
		{none, wide, 0, api.ErrShape, api.ErrShape},
		{none, sample.Ring(0, 40), 2, api.ErrRange, api.ErrRange},
		{none, sample.Ring(0, 40), 1, api.OK, api.ErrFull},
		{none, sample.Ring(0, 5), -1, api.ErrRange, api.ErrRange},
		{none, sample.Ring(0, 5), 1, api.OK, api.ErrNone},
		{none, sample.Ring(0, 6), 1, api.OK, api.ErrFull},
	}
	for _, c := range cases {
		check(t, c.plant, c.spec, c.free, answers{kept: c.noKept == api.OK, noKept: c.noKept, noMost: c.noMost})
	}
}
