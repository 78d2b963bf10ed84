package veil_test

import (
	"math"
	"slices"
	"strings"
	"testing"

	"stileward/api"
	"stileward/dfa"
	"stileward/plain"
	"stileward/reach"
	"stileward/sample"
	"stileward/small"
	"stileward/veil"
	"stileward/word"
)

// check demands of all functions some answers.
func check(t *testing.T, d, secret api.Dfa, set int, want answers) {
	t.Helper()
	see, err := veil.See(d, set)
	if !sample.EqualDfas(see, want.see) || plain.Told(err) != want.noSee {
		t.Errorf("See(%v, %d) = %v, %v, want %v, %v", d, set, see, err, want.see, want.noSee)
	}
	lift, err := veil.Lift(d, set)
	if !sample.EqualDfas(lift, want.lift) || plain.Told(err) != want.noLift {
		t.Errorf("Lift(%v, %d) = %v, %v, want %v, %v", d, set, lift, err, want.lift, want.noLift)
	}
	checkOpaque(t, d, secret, set, want)
}

// checkOpaque demands of Opaque some answers.
func checkOpaque(t *testing.T, d, secret api.Dfa, set int, want answers) {
	t.Helper()
	opaque, first, err := veil.Opaque(d, secret, set)
	if opaque != want.opaque || !slices.Equal(first, want.first) || plain.Told(err) != want.noOpaque {
		t.Errorf("Opaque(%v, %v, %d) = %v, %v, %v, want %v, %v, %v",
			d, secret, set, opaque, first, err, want.opaque, want.first, want.noOpaque)
	}
}

// checkSlowly demands of the slow way the same answers.
func checkSlowly(t *testing.T, d, secret api.Dfa, set int, want answers) {
	t.Helper()
	slow := slowly(d, secret, set)
	if !sample.EqualDfas(slow.see, want.see) || !sample.EqualDfas(slow.lift, want.lift) ||
		slow.opaque != want.opaque || !slices.Equal(slow.first, want.first) ||
		slow.noSee != want.noSee || slow.noLift != want.noLift || slow.noOpaque != want.noOpaque {
		t.Errorf("for %v, %v and %d, the slow way finds %v, want %v", d, secret, set, slow, want)
	}
}

// same tells whether two automata accept the same words.
func same(t *testing.T, a, b api.Dfa) bool {
	t.Helper()
	is, _, err := small.Same(a, b)
	if err != nil {
		t.Fatalf("of %v and %v there is the error %v", a, b, err)
	}
	return is
}

// given is an automaton, what is seen, and the automata that See and Lift make.
type given struct {
	name      string
	d         api.Dfa
	seen      string
	see, lift api.Dfa
}

// rows returns an automaton of some letters that starts in its first state.
func rows(letters int, finals string, next ...[]int) api.Dfa {
	return api.Dfa{Letters: letters, Next: next, Final: sample.Pluses(finals)}
}

// makings are automata with what is to be made of them.
func makings() []given {
	// Of two letters, each state is another one's next by both.
	turns := sample.Started(rows(2, "-+-", []int{1, 2}, []int{2, 0}, []int{0, 1}), 1)
	return []given{
		{"one letter that is seen", sample.Ring(1, 1), "0", sample.Ring(1, 1), sample.Ring(1, 1)},
		{
			"one letter that is not seen", sample.Ring(1, 1), "",
			rows(1, "+-", []int{1}, []int{1}), rows(1, "-+", []int{0}, []int{1}),
		},
		{
			"one letter that is not seen, and no word", sample.NoneFinal(sample.Ring(1, 1)), "",
			rows(1, "--", []int{1}, []int{1}), rows(1, "--", []int{0}, []int{1}),
		},
		{
			"both are seen", turns, "01",
			rows(2, "+--", []int{1, 2}, []int{2, 0}, []int{0, 1}), turns,
		},
		{
			"the first is seen", turns, "0",
			rows(2, "+-", []int{0, 1}, []int{1, 1}),
			sample.Started(rows(2, "-+-", []int{1, 0}, []int{2, 1}, []int{0, 2}), 1),
		},
		{
			"the second is seen", turns, "1",
			rows(2, "+-", []int{1, 0}, []int{1, 1}),
			sample.Started(rows(2, "-+-", []int{0, 2}, []int{1, 0}, []int{2, 1}), 1),
		},
		{
			"none is seen", turns, "",
			rows(2, "+-", []int{1, 1}, []int{1, 1}),
			sample.Started(rows(2, "-+-", []int{0, 0}, []int{1, 1}, []int{2, 2}), 1),
		},
		{
			"what is not seen leads on, and not back", rows(2, "-+-", []int{2, 1}, []int{0, 1}, []int{2, 2}), "0",
			rows(2, "++-", []int{1, 2}, []int{1, 2}, []int{2, 2}),
			rows(2, "-+-", []int{2, 0}, []int{0, 1}, []int{2, 2}),
		},
		{
			"states that no word leads to", rows(2, "-++", []int{0, 0}, []int{2, 0}, []int{0, 1}), "1",
			rows(2, "--", []int{1, 0}, []int{1, 1}),
			rows(2, "-++", []int{0, 0}, []int{1, 0}, []int{2, 1}),
		},
		{
			"the middle one of three", rows(3, "+--", []int{1, 2, 0}, []int{1, 1, 2}, []int{2, 2, 2}), "1",
			rows(3, "+--", []int{1, 2, 1}, []int{1, 1, 1}, []int{1, 2, 1}),
			rows(3, "+--", []int{0, 2, 0}, []int{1, 1, 1}, []int{2, 2, 2}),
		},
	}
}

// 21.1: the states of See are numbered as they are found, those of Lift are those of the automaton.
func TestMakings(t *testing.T) {
	for _, c := range makings() {
		set := sample.SetOf(c.seen)
		see, err := veil.See(c.d, set)
		if !sample.EqualDfas(see, c.see) || err != nil {
			t.Errorf("%s: See(%v, %d) = %v, %v, want %v", c.name, c.d, set, see, err, c.see)
		}
		lift, err := veil.Lift(c.d, set)
		if !sample.EqualDfas(lift, c.lift) || err != nil {
			t.Errorf("%s: Lift(%v, %d) = %v, %v, want %v", c.name, c.d, set, lift, err, c.lift)
		}
		slow := slowly(c.d, c.d, set)
		if !sample.EqualDfas(slow.see, c.see) || !sample.EqualDfas(slow.lift, c.lift) {
			t.Errorf("%s: the slow way finds %v", c.name, slow)
		}
	}
}

// example is an automaton of three letters and a secret by their words, what is seen, the words of
// the first one as they are seen, and the first of these that tells the secret (- if none does).
type example struct {
	name          string
	words, secret string
	seen          string
	see           string
	first         string
}

// ofOpaque are examples in which nothing tells the secret.
func ofOpaque() []example {
	return []example{
		{"nothing is secret", ". 0 01", "", "012", ". 0 01", "-"},
		{"there is no word", "", ". 0 01", "012", "", "-"},
		{"neither has a word", "", "", "", "", "-"},
		{"the secret is no word", "0 1", ". 2 02", "012", "0 1", "-"},
		{"the secret is no word, though seen as one", "0 1", "2 02 20", "01", "0 1", "-"},
		{"a beginning is no word", "01", "0", "012", "01", "-"},
		{"another word is seen so", "0 02", "02", "01", "0", "-"},
		{"another word as long is seen so", "02 20", "02", "01", "0", "-"},
		{"another longer word is seen so", "02 2202", "02", "01", "0", "-"},
		{"another word is seen as none", "2 22", "2", "01", ".", "-"},
		{"the empty word is seen as none", ". 2 0", "2", "01", ". 0", "-"},
		{"the empty word is secret", ". 2 0", ".", "01", ". 0", "-"},
		{"nothing is seen", "0 01 2", "0 01", "", ".", "-"},
		{"two other words are seen so", "012 02 1 2", "012 02", "", ".", "-"},
		{"each has another word", "02 20 1 212", "02 212", "01", "0 1", "-"},
		{"more is secret than there are words", "0 02", "02 1 12", "01", "0", "-"},
	}
}

// ofTold are examples in which something tells the secret.
func ofTold() []example {
	return []example{
		{"all is seen", ". 0 01", "0", "012", ". 0 01", "0"},
		{"all is seen and secret", "0 01", "0 01", "012", "0 01", "0"},
		{"nothing is seen, and all is secret", "0 01", "0 01", "", ".", "."},
		{"nothing is seen, and more is secret", "01", "01 2 .", "", ".", "."},
		{"the empty word", ". 0", ".", "012", ". 0", "."},
		{"the empty word, of which more is seen", ". 20", ".", "01", ". 0", "."},
		{"a word seen as none", "2 0", "2", "01", ". 0", "."},
		{"no other word is seen so", "02 1", "02", "01", "0 1", "0"},
		{"a word that is seen so is none of these", "02 1", "02 12", "01", "0 1", "0"},
		{"all words seen so are secret", "0 02 20 1", "0 02 20", "01", "0 1", "0"},
		{"all but one seen so are secret", "0 02 20 1 12", "0 02 1 12", "01", "0 1", "1"},
		{"the order of what is seen counts", "021 102", "021", "01", "01 10", "01"},
		{"the number of what is seen counts", "00 0 020", "0", "01", "0 00", "0"},
		{"the first of two", "02 1", "02 1", "01", "0 1", "0"},
		{"the smaller letter of the longer word", "2220 1", "2220 1", "01", "0 1", "0"},
		{"the shorter of what is seen of the longer word", "222221 00", "222221 00", "01", "1 00", "1"},
		{"the shorter one of what is seen", "00 1 222221", "00", "01", "1 00", "00"},
		{"the smaller letter, and then the greater one", "21 0102", "21 0102", "12", "12 21", "12"},
		{"the longer one, as another word is seen as the shorter one is", "02 0 121", "02 121", "01", "0 11", "11"},
		{"the third letter alone is seen", "012 102 2 1", "012 102 1", "2", ". 2", "."},
		{"the third letter alone is seen, and another word too", "012 102 2 1 0", "012 102 1 2", "2", ". 2", "2"},
	}
}

// checkFirst demands of Opaque, and of the slow way, the first word that tells the secret: - stands
// for none, and . for the empty one.
func checkFirst(t *testing.T, d, secret api.Dfa, set int, first string) {
	t.Helper()
	want := slowly(d, secret, set)
	want.opaque, want.first = first == "-", sample.Digits(strings.Trim(first, "-."))
	checkSlowly(t, d, secret, set, want)
	check(t, d, secret, set, want)
}

// 21.1, 21.2: what is seen, and whether it tells a secret.
func TestExamples(t *testing.T) {
	for _, c := range slices.Concat(ofOpaque(), ofTold()) {
		t.Run(c.name, func(t *testing.T) {
			d, secret := sample.Among(3, sample.Split(c.words)...), sample.Among(3, sample.Split(c.secret)...)
			set := sample.SetOf(c.seen)
			see, err := veil.See(d, set)
			if err != nil || !same(t, see, sample.Among(3, sample.Split(c.see)...)) {
				t.Errorf("See(%v, %d) = %v, %v, want what accepts %s", d, set, see, err, c.see)
			}
			checkFirst(t, d, secret, set, c.first)
		})
	}
}

// house has a lamp, which whoever is in it switches on (letter 0) and off (1). Those outside see
// the lamp, but not that somebody comes or goes (2). Nobody is there at first. One may be in the
// dark (1) or in the light (2), and it may be that one may leave the light on (3).
func house(leaves bool) api.Dfa {
	d := rows(3, "++++-", []int{4, 4, 1}, []int{2, 4, 0}, []int{4, 1, 4}, []int{4, 4, 2}, []int{4, 4, 4})
	if leaves {
		d.Next[2][2] = 3
	}
	return d
}

// 21.2: whoever always switches the light off tells that he is in when it is on.
func TestHouse(t *testing.T) {
	cases := []struct {
		name   string
		leaves bool
		secret string
		seen   string
		first  string
	}{
		{"somebody is in", true, "-++--", "01", "-"},
		{"somebody is in the light", true, "--+--", "01", "-"},
		{"nobody is in", true, "+--+-", "01", "-"},
		{"somebody is in, who switches off", false, "-++--", "01", "0"},
		{"somebody is in the light, who switches off", false, "--+--", "01", "0"},
		{"somebody is in the dark, who switches off", false, "-+---", "01", "-"},
		{"nobody is in, but switched off", false, "+--+-", "01", "-"},
		{"it is dark", true, "++---", "01", "."},
		{"it is dark, and only coming and going is seen", true, "++---", "2", "."},
		{"it is light, and only coming and going is seen", true, "--++-", "2", "-"},
		{"it is light, and only coming and going is seen, and he switches off", false, "--++-", "2", "-"},
		{"somebody is in, and all is seen", true, "-++--", "012", "2"},
		{"the light is left on, and all is seen", true, "---+-", "012", "202"},
		{"nothing is seen", true, "-+++-", "", "-"},
		{"nothing is seen, and nothing is not secret", true, "+++++", "", "."},
	}
	for _, c := range cases {
		t.Run(c.name, func(t *testing.T) {
			d := house(c.leaves)
			checkFirst(t, d, sample.WithFinals(d, c.secret), sample.SetOf(c.seen), c.first)
		})
	}
}

// seenIn returns what is seen of a text of letters.
func seenIn(text string, set int) string {
	var seen strings.Builder
	for i, letter := range sample.Digits(text) {
		if sample.Has(set, letter) {
			seen.WriteByte(text[i])
		}
	}
	return seen.String()
}

// wordsSeen returns what is seen of some words that are, or are not, among others. The words are
// given in the order of word.Less, and so are those that are returned, each of them once.
func wordsSeen(all, words []string, set int, secret func(w string) bool) []string {
	var seen []string
	for _, v := range all {
		if slices.ContainsFunc(words, func(w string) bool { return secret(w) && seenIn(w, set) == v }) {
			seen = append(seen, v)
		}
	}
	return seen
}

// 21.1, 21.2: for sets of words of up to three letters, the functions do what the words of the chapter say.
func TestWords(t *testing.T) {
	opaque, told := 0, map[int]int{}
	for seed := range uint64(3000) {
		below := sample.Below(seed)
		letters := 2 + below(2)
		all := sample.Texts(5-letters, "012"[:letters])
		of := 1 + below(4)
		words := sample.Some(below, all, of)
		secrets := sample.Some(below, all, 1+below(4))
		set := below(1 << letters)
		d, secret := sample.Among(letters, words...), sample.Among(letters, secrets...)
		want := slowly(d, secret, set)
		if want.noSee == api.OK {
			seen := wordsSeen(all, words, set, func(string) bool { return true })
			see, err := veil.See(d, set)
			if err != nil || !same(t, see, sample.Among(letters, seen...)) {
				t.Errorf("See(%q, %d) = %v, %v, want what accepts %q", words, set, see, err, seen)
			}
		}
		if want.noOpaque == api.OK {
			ofSecret := wordsSeen(all, words, set, func(w string) bool { return slices.Contains(secrets, w) })
			ofOthers := wordsSeen(all, words, set, func(w string) bool { return !slices.Contains(secrets, w) })
			at := slices.IndexFunc(ofSecret, func(v string) bool { return !slices.Contains(ofOthers, v) })
			want.opaque, want.first = at < 0, nil
			if at >= 0 {
				want.first = sample.Digits(ofSecret[at])
				told[len(want.first)]++
			} else if len(ofSecret) > 0 {
				opaque++
			}
		}
		check(t, d, secret, set, want)
	}
	if opaque < 200 || told[0] < 200 || told[1] < 200 || told[2] < 100 || told[3] < 20 {
		t.Errorf("a secret is opaque %d times, and told by as many letters as often as %v", opaque, told)
	}
}

// 21.1: See accepts what is seen of accepted words, and no other words; Lift accepts the words of
// which what is seen is accepted.
func TestLanguages(t *testing.T) {
	for _, c := range []struct{ states, letters, step, length, seen int }{
		{1, 1, 1, 3, 3}, {1, 3, 1, 3, 3}, {2, 1, 1, 6, 3}, {2, 2, 1, 5, 2}, {3, 1, 1, 9, 3}, {3, 2, 37, 8, 2}, {2, 3, 61, 5, 2},
	} {
		// The way from each state to each other one has fewer letters than there are states, so no
		// word that is seen as a short one need be longer than these.
		texts := sample.Texts(c.length, sample.Bytes()[:c.letters])
		dfas := sample.AllDfas(c.states, c.letters)
		for i := 0; i < len(dfas); i += c.step {
			for set := range 1 << c.letters {
				checkLanguages(t, dfas[i], set, texts, c.seen)
			}
		}
	}
}

// checkLanguages demands of See and Lift that they accept the right ones of some words. What is
// accepted is seen in them for all words of up to some letters that can be seen.
func checkLanguages(t *testing.T, d api.Dfa, set int, texts []string, longest int) {
	t.Helper()
	see, err := veil.See(d, set)
	lift, wrong := veil.Lift(d, set)
	if err != nil || wrong != nil {
		t.Fatalf("See and Lift of %v and %d have the errors %v and %v", d, set, err, wrong)
	}
	seen := map[string]bool{}
	for _, text := range texts {
		w := sample.Word(text)
		only, err := word.Only(d.Letters, w, set)
		if err != nil {
			t.Fatal(err)
		}
		if sample.Accepts(d, w) {
			seen[string(bytesOf(only))] = true
		}
		if got := sample.Accepts(lift, w); got != sample.Accepts(d, only) {
			t.Errorf("Lift(%v, %d) accepts %v: %v", d, set, w, got)
		}
	}
	for _, text := range texts {
		if got := sample.Accepts(see, sample.Word(text)); len(text) <= longest && got != seen[text] {
			t.Errorf("See(%v, %d) accepts %q: %v", d, set, text, got)
		}
	}
}

// bytesOf returns the letters of a word as bytes.
func bytesOf(w []int) []byte {
	var b []byte
	for _, letter := range w {
		b = append(b, byte(letter))
	}
	return b
}

// 21.1, 21.2: for small automata, all of some sizes and every few of others, and all sets of
// letters, the functions do what the words of the chapter say.
func TestAll(t *testing.T) {
	for _, c := range []struct{ states, secrets, letters, step int }{
		{1, 1, 1, 1}, {1, 1, 3, 1}, {1, 2, 2, 1}, {2, 1, 1, 1}, {2, 1, 2, 1}, {2, 2, 1, 1}, {2, 2, 2, 7}, {3, 1, 2, 5}, {3, 2, 1, 5}, {3, 3, 1, 151}, {3, 2, 2, 4001}, {2, 2, 3, 401},
	} {
		dfas, secrets := sample.AllDfas(c.states, c.letters), sample.AllDfas(c.secrets, c.letters)
		for i := 0; i < len(dfas)*len(secrets); i += c.step {
			d, secret := dfas[i/len(secrets)], secrets[i%len(secrets)]
			for set := range 1 << c.letters {
				check(t, d, secret, set, slowly(d, secret, set))
			}
		}
	}
}

// mixed returns an automaton, a secret and a set of letters out of the numbers of sample.Below. Most
// letters that are not seen lead nowhere else, as less would be known of all others. In every other
// case, the secret is where the automaton may come to: both have the same states.
func mixed(seed uint64) (d, secret api.Dfa, set int) {
	below := sample.Below(seed + 1)
	letters := 6 - below(6)
	set = below(1<<letters) | below(1<<letters)
	states := 1 + below(8)
	if seed%2 == 0 {
		states = 1 + below(40)
	}
	d = sample.Mixed(seed, states, letters)
	of := 1 + below(2*states)
	for s, row := range d.Next {
		for letter := range row {
			if !sample.Has(set, letter) && below(of) > 0 {
				row[letter] = s
			}
		}
	}
	if seed%2 == 1 {
		return d, sample.Mixed(seed+1, 1+below(4), letters), set
	}
	secret = sample.CloneDfa(d)
	parts := 1 + below(20)
	for s := range secret.Final {
		d.Final[s] = below(parts) > 0
		secret.Final[s] = below(parts) == 0
	}
	return d, secret, set
}

// 21.1, 21.2: for automata of all sizes and sets of all sizes, the functions do what the words of
// the chapter say.
func TestMixed(t *testing.T) {
	see, found, states, lengths, opaque := map[api.Errno]int{}, map[api.Errno]int{}, map[int]int{}, map[int]int{}, 0
	for seed := range uint64(6000) {
		d, secret, set := mixed(seed)
		want := slowly(d, secret, set)
		check(t, d, secret, set, want)
		see[want.noSee]++
		found[want.noOpaque]++
		states[len(want.see.Next)/5]++
		if want.opaque && set > 0 {
			opaque++
		} else if want.noOpaque == api.OK {
			lengths[len(want.first)]++
		}
	}
	if see[api.OK] < 300 || see[api.ErrFull] < 300 || found[api.OK] < 300 || found[api.ErrFull] < 300 {
		t.Errorf("the errors are as often as %v and %v", see, found)
	}
	for n := range 8 {
		if states[n] < 50 || n < 6 && lengths[n] < 20 {
			t.Errorf("as many fives of states are as often as %v, and as long words as %v", states, lengths)
		}
	}
	if opaque < 500 {
		t.Errorf("a secret is opaque %d times", opaque)
	}
}

// 21.1: if all is seen, what is seen is the words themselves; if nothing is, it is no letter.
func TestAllAndNoneSeen(t *testing.T) {
	words, none := 0, 0
	for seed := range uint64(1000) {
		d, _, _ := mixed(seed)
		if seed%5 == 0 {
			d = sample.NoneFinal(d)
		}
		all := 1<<d.Letters - 1
		trimmed, wrong := reach.Trim(d)
		see, err := veil.See(d, all)
		if !sample.EqualDfas(see, trimmed) || err != nil || wrong != nil {
			t.Errorf("See(%v, %d) = %v, %v, want %v, %v", d, all, see, err, trimmed, wrong)
		}
		lift, err := veil.Lift(d, all)
		if !sample.EqualDfas(lift, d) || err != nil {
			t.Errorf("Lift(%v, %d) = %v, %v", d, all, lift, err)
		}
		_, wrong = reach.First(d)
		want := rows(d.Letters, "+-", sample.Repeated(d.Letters, 1), sample.Repeated(d.Letters, 1))
		if want.Final[0] = wrong == nil; wrong == nil {
			words++
		} else {
			none++
		}
		see, err = veil.See(d, 0)
		if !sample.EqualDfas(see, want) || err != nil {
			t.Errorf("See(%v, 0) = %v, %v, want %v", d, see, err, want)
		}
	}
	if words < 200 || none < 200 {
		t.Errorf("there are words %d times, and none %d times", words, none)
	}
}

// 21.1: what is seen of what is seen is what is in both sets, and words of which what is lifted
// is accepted are lifted by both sets.
func TestTwice(t *testing.T) {
	twice := 0
	for seed := range uint64(2000) {
		d, _, set := mixed(seed)
		next := sample.Below(seed)(1 << d.Letters)
		lift, err := veil.Lift(made(t, d, set, veil.Lift), next)
		if want := made(t, d, set&next, veil.Lift); !sample.EqualDfas(lift, want) || err != nil {
			t.Errorf("Lift(%v, %d) and then %d = %v, %v, and at once %v", d, set, next, lift, err, want)
		}
		first, err := veil.See(d, set)
		if err != nil {
			continue
		}
		see, err := veil.See(first, next)
		atOnce, wrong := veil.See(d, set&next)
		if err == nil && wrong == nil {
			twice++
			if !same(t, see, atOnce) {
				t.Errorf("See(%v, %d) and then %d = %v, and at once %v", d, set, next, see, atOnce)
			}
		}
	}
	if twice < 1000 {
		t.Errorf("%d automata are seen twice", twice)
	}
}

// made returns what See or Lift makes without an error.
func made(t *testing.T, d api.Dfa, set int, maker func(d api.Dfa, set int) (api.Dfa, error)) api.Dfa {
	t.Helper()
	got, err := maker(d, set)
	if err != nil {
		t.Fatalf("there is the error %v for %v and %d", err, d, set)
	}
	return got
}

// 21.1: what is seen of two automata is what is seen of one of them.
func TestSeeEither(t *testing.T) {
	compared := 0
	for seed := range uint64(3000) {
		d, other, set := mixed(seed)
		first, wrongFirst := veil.See(d, set)
		second, wrongSecond := veil.See(other, set)
		either, tooMany := dfa.Either(d, other)
		if set == 0 || wrongFirst != nil || wrongSecond != nil || tooMany != nil {
			continue
		}
		together, err := veil.See(either, set)
		want, tooMany := dfa.Either(first, second)
		if err != nil || tooMany != nil {
			continue
		}
		compared++
		if !same(t, together, want) {
			t.Errorf("See of %v is %v, and %v of %v, but %v of either", d, first, second, other, together)
		}
	}
	if compared < 1000 {
		t.Errorf("%d pairs are compared", compared)
	}
}

// 21.1: all that is seen of an automaton is accepted exactly if it accepts nothing but what is
// seen as accepted words are.
func TestSeeAndLift(t *testing.T) {
	parts, others := 0, 0
	for seed := range uint64(3000) {
		d, other, set := mixed(seed)
		see, err := veil.See(d, set)
		if err != nil {
			continue
		}
		lifted := made(t, see, set, veil.Lift)
		if !sample.IsPart(d, lifted) {
			t.Errorf("See(%v, %d) = %v, and Lift of it %v", d, set, see, lifted)
		}
		is := sample.IsPart(see, other)
		if sample.IsPart(d, made(t, other, set, veil.Lift)) != is {
			t.Errorf("See(%v, %d) = %v, of which %v accepts all: %v, but not so Lift of it", d, set, see, other, is)
		}
		if is {
			parts++
		} else {
			others++
		}
	}
	if parts < 100 || others < 1000 {
		t.Errorf("all is accepted %d times, and not %d times", parts, others)
	}
}

// products returns the automata of the words of another one that are secret, and of those that
// are not, if there are not too many pairs.
func products(d, secret api.Dfa) (both, but api.Dfa, is bool) {
	both, err := dfa.Both(d, secret)
	if err != nil {
		return api.Dfa{}, api.Dfa{}, false
	}
	but, err = dfa.But(d, secret)
	return both, but, err == nil
}

// 21.2: a secret is opaque exactly if all its words are seen as others are. If it is not, the word
// that is returned is seen of some of its words, and of no other ones.
func TestOpaque(t *testing.T) {
	opaque, told := 0, 0
	for seed := range uint64(3000) {
		d, secret, set := mixed(seed)
		got, first, err := veil.Opaque(d, secret, set)
		if err != nil {
			continue
		}
		both, but, is := products(d, secret)
		if !is {
			t.Fatalf("Opaque(%v, %v, %d) has no error", d, secret, set)
		}
		others := made(t, made(t, but, set, veil.See), set, veil.Lift)
		if sample.IsPart(both, others) != got {
			t.Errorf("Opaque(%v, %v, %d) = %v, but others are seen as %v", d, secret, set, got, others)
		}
		if got {
			opaque++
			continue
		}
		told++
		seenSo := made(t, chain(d.Letters, first), set, veil.Lift)
		if !meet(t, both, seenSo) || meet(t, but, seenSo) {
			t.Errorf("Opaque(%v, %v, %d) has the word %v", d, secret, set, first)
		}
	}
	if opaque < 500 || told < 500 {
		t.Errorf("a secret is opaque %d times, and told %d times", opaque, told)
	}
}

// chain returns the automaton that accepts one word, which has at most 38 letters.
func chain(letters int, w []int) api.Dfa {
	last := len(w) + 1
	d := api.Dfa{Letters: letters, Final: make([]bool, last+1)}
	for at, letter := range w {
		d.Next = append(d.Next, sample.Replaced(sample.Repeated(letters, last), letter, at+1))
	}
	d.Next = append(d.Next, sample.Repeated(letters, last), sample.Repeated(letters, last))
	d.Final[len(w)] = true
	return d
}

// meet tells whether there is a word that both automata accept.
func meet(t *testing.T, a, b api.Dfa) bool {
	t.Helper()
	not, err := dfa.Not(b)
	if err != nil {
		t.Fatal(err)
	}
	return !sample.IsPart(a, not)
}

// 21.2: what is opaque to those who see more is so to those who see less. If all is seen, all that
// is secret is told, and if nothing is, it is opaque if something is not secret.
func TestLessSeen(t *testing.T) {
	opaque, less := 0, 0
	for seed := range uint64(3000) {
		d, secret, set := mixed(seed)
		both, but, is := products(d, secret)
		if !is {
			continue
		}
		first, none := reach.First(both)
		checkOpaque(t, d, secret, 1<<d.Letters-1, answers{opaque: none != nil, first: first})
		_, noOther := reach.First(but)
		checkOpaque(t, d, secret, 0, answers{opaque: none != nil || noOther == nil})
		got, _, err := veil.Opaque(d, secret, set)
		for letter := range d.Letters {
			if !sample.Has(set, letter) {
				continue
			}
			seenLess, _, wrong := veil.Opaque(d, secret, set-1<<letter)
			if got && !seenLess && wrong == nil {
				t.Errorf("Opaque(%v, %v, %d) is %v, but without %d not", d, secret, set, got, letter)
			}
			if got && none == nil && wrong == nil {
				opaque++
			} else if seenLess && err == nil {
				less++
			}
		}
	}
	if opaque < 500 || less < 500 {
		t.Errorf("it is opaque %d times, and with less that is seen %d times", opaque, less)
	}
}

// rounds goes round through some states behind letter 0, and through some others behind letter 1,
// by 0 each time, while 1 does nothing. What leads to the first states of either way is accepted.
// Those who see 0 alone know which ones of both rounds it may be in.
func rounds(first, second int) api.Dfa {
	d := api.Dfa{Letters: 2, Next: [][]int{{1, 1 + first}}, Final: make([]bool, 1+first+second)}
	for s := 1; s <= first+second; s++ {
		next := s + 1
		if s == first {
			next = 1
		} else if s == first+second {
			next = 1 + first
		}
		d.Next = append(d.Next, []int{next, s})
	}
	d.Final[1], d.Final[1+first] = true, true
	return d
}

// every returns an automaton in which all states are final.
func every(d api.Dfa) api.Dfa { return sample.WithFinals(d, strings.Repeat("+", len(d.Next))) }

// 21.1, 21.2: See and what is made for Opaque may have 40 states, but not 41, whether or not they
// are needed.
func TestFull(t *testing.T) {
	one, two := every(sample.Mixed(1, 1, 2)), every(sample.Mixed(1, 2, 2))
	cases := []struct {
		name             string
		d, secret        api.Dfa
		set              int
		noSee, noOpaque  api.Errno
		opaque           bool
		first, seeStates int
	}{
		{"40 sets", rounds(2, 19), one, 1, api.OK, api.OK, false, 0, 40},
		{"40 sets, and nothing secret", rounds(19, 2), sample.NoneFinal(one), 1, api.OK, api.OK, true, 0, 40},
		{"40 sets, and nothing accepted", sample.NoneFinal(rounds(19, 2)), one, 1, api.OK, api.OK, true, 0, 40},
		{"41 sets", rounds(3, 13), one, 1, api.ErrFull, api.ErrFull, false, 0, 0},
		{"41 sets, and nothing secret", rounds(13, 3), sample.NoneFinal(one), 1, api.ErrFull, api.ErrFull, false, 0, 0},
		{"41 sets, and nothing accepted", sample.NoneFinal(rounds(13, 3)), one, 1, api.ErrFull, api.ErrFull, false, 0, 0},
		{"41 sets, of which the other letter is seen", rounds(3, 13), one, 2, api.OK, api.OK, false, 0, 3},
		{"41 sets, of which nothing is seen", rounds(3, 13), one, 0, api.OK, api.OK, false, 0, 2},
		{"41 sets, of which all is seen", rounds(3, 13), one, 3, api.OK, api.OK, false, 1, 17},
		{"many sets", rounds(19, 20), one, 1, api.ErrFull, api.ErrFull, false, 0, 0},
		{"many sets, of which all is seen", rounds(19, 20), one, 3, api.OK, api.OK, false, 1, 40},
		{"41 sets that no word leads to", sample.Started(rounds(3, 13), 1), one, 1, api.OK, api.OK, false, 0, 4},
		{"40 pairs", every(sample.Ring(0, 5)), every(sample.Ring(0, 8)), 0, api.OK, api.OK, false, 0, 2},
		{"40 pairs, and all is seen", every(sample.Ring(0, 8)), every(sample.Ring(0, 5)), 1, api.OK, api.OK, false, 0, 8},
		{"41 pairs", every(sample.Ring(1, 5)), every(sample.Ring(0, 8)), 0, api.OK, api.ErrFull, false, 0, 2},
		{"41 pairs, and all is seen", every(sample.Ring(0, 8)), every(sample.Ring(1, 5)), 1, api.OK, api.ErrFull, false, 0, 8},
		{"41 pairs, and nothing is secret", every(sample.Ring(0, 8)), sample.NoneFinal(sample.Ring(1, 5)), 0, api.OK, api.ErrFull, false, 0, 2},
		{"41 pairs, and nothing is accepted", sample.NoneFinal(sample.Ring(0, 8)), every(sample.Ring(1, 5)), 0, api.OK, api.ErrFull, false, 0, 2},
		{"40 sets, but more of pairs", rounds(2, 19), two, 1, api.OK, api.ErrFull, false, 0, 40},
	}
	for _, c := range cases {
		t.Run(c.name, func(t *testing.T) {
			want := slowly(c.d, c.secret, c.set)
			if len(want.see.Next) != c.seeStates || want.noSee != c.noSee {
				t.Errorf("there are %d states, and the error is %v, want %d, %v", len(want.see.Next), want.noSee, c.seeStates, c.noSee)
			}
			want.opaque, want.noOpaque, want.first = c.opaque, c.noOpaque, sample.Repeated(c.first, 0)
			checkSlowly(t, c.d, c.secret, c.set, want)
			check(t, c.d, c.secret, c.set, want)
		})
	}
}

// 21.2: the first word that tells may be of any length: it may go through all states.
func TestLongWords(t *testing.T) {
	for length := range 40 {
		d := api.Dfa{Letters: 2, Final: make([]bool, length+1)}
		for s := range d.Final {
			d.Next = append(d.Next, []int{min(s+1, length), s})
		}
		secret := sample.CloneDfa(d)
		d, secret.Final[length] = every(d), true
		told := answers{first: sample.Repeated(length, 0)}
		checkOpaque(t, d, secret, 3, told)
		if length == 39 {
			told = answers{noOpaque: api.ErrFull}
		}
		checkOpaque(t, d, secret, 1, told)
		// Where nothing is told by 0, it is not by 1 either.
		checkOpaque(t, d, secret, 2, answers{opaque: length > 0})
		checkOpaque(t, d, secret, 0, answers{opaque: length > 0})
	}
}

// 21.1, 21.2: set is a set of letters, whatever is seen.
func TestSets(t *testing.T) {
	for letters := 1; letters <= 6; letters++ {
		whole := every(sample.Mixed(1, 1, letters))
		for set := range 1 << letters {
			want := answers{see: rows(letters, "+", make([]int, letters)), lift: whole}
			if set < 1<<letters-1 {
				want.see.Next = append(want.see.Next, sample.Repeated(letters, 1))
				want.see.Final = append(want.see.Final, false)
			}
			for letter := range letters {
				if !sample.Has(set, letter) {
					want.see.Next[0][letter] = 1
				}
			}
			checkSlowly(t, whole, whole, set, want)
			check(t, whole, whole, set, want)
			want.opaque = true
			check(t, whole, sample.NoneFinal(whole), set, want)
		}
		for _, set := range []int{-1, -2, 1 << letters, 1<<letters + 1, 64, 1 << 32, 1<<32 + 1, 1 << 62, math.MinInt, math.MaxInt} {
			for _, d := range []api.Dfa{whole, sample.NoneFinal(whole)} {
				want := answers{noSee: api.ErrRange, noLift: api.ErrRange, noOpaque: api.ErrRange}
				check(t, d, whole, set, want)
				check(t, whole, d, set, want)
			}
		}
	}
}

// 21.1, 21.2: each letter counts for itself, be it the only one that is seen, or the only one that is not.
func TestLetters(t *testing.T) {
	for letters := 1; letters <= 6; letters++ {
		d := rows(letters, "-+-", sample.Repeated(letters, 1), sample.Repeated(letters, 2), sample.Repeated(letters, 2))
		for letter := range letters {
			secret := rows(letters, "-+-", sample.Replaced(sample.Repeated(letters, 2), letter, 1), d.Next[1], d.Next[2])
			for set := range 1 << letters {
				want := slowly(d, secret, set)
				want.opaque, want.first = !sample.Has(set, letter) && set|1<<letter != 1<<letters-1, nil
				if sample.Has(set, letter) {
					want.first = []int{letter}
				}
				check(t, d, secret, set, want)
				for seen := range letters {
					if got := sample.Accepts(want.see, []int{seen}); got != sample.Has(set, seen) {
						t.Errorf("See(%v, %d) accepts %d: %v", d, set, seen, got)
					}
				}
				if got := sample.Accepts(want.see, nil); got != (set < 1<<letters-1) {
					t.Errorf("See(%v, %d) accepts the empty word: %v", d, set, got)
				}
			}
		}
	}
}

// 21.1, 21.2: the errors of automata are those of dfa.Check, and with an error there is nothing else.
func TestErrors(t *testing.T) {
	for i, c := range sample.DfaChecks() {
		other := sample.Mixed(uint64(i), 1+i%3, max(1, min(c.Dfa.Letters, 6)))
		for _, set := range []int{-1, 0, 1, 2, 63, 64} {
			for _, pair := range [][2]api.Dfa{{c.Dfa, other}, {other, c.Dfa}, {c.Dfa, c.Dfa}} {
				want := slowly(pair[0], pair[1], set)
				if c.Want != api.OK && want.noOpaque != c.Want {
					t.Fatalf("%s: the slow way finds %v, want %v", c.Name, want, c.Want)
				}
				check(t, pair[0], pair[1], set, want)
			}
			_, noSee := veil.See(c.Dfa, set)
			_, noLift := veil.Lift(c.Dfa, set)
			if c.Want != api.OK && (plain.Told(noSee) != c.Want || plain.Told(noLift) != c.Want) {
				t.Errorf("%s: See and Lift of %d have the errors %v and %v", c.Name, set, noSee, noLift)
			}
		}
	}
	for _, c := range sample.DfaPairs() {
		for _, set := range []int{-1, 0, 1, 2, 64} {
			checkOpaque(t, c.A, c.B, set, answers{noOpaque: c.Want})
		}
	}
}

// 21.1, 21.2: of several errors, the first one is returned.
func TestFirstError(t *testing.T) {
	short, outside := sample.Ring(0, 3), sample.Started(sample.Ring(0, 3), 3)
	short.Final = nil
	none, wide := sample.NoneFinal(sample.Ring(0, 7)), rounds(3, 13)
	cases := []struct {
		d, secret       api.Dfa
		set             int
		noSee, noOpaque api.Errno
	}{
		{short, outside, -1, api.ErrShape, api.ErrShape},
		{outside, short, -1, api.ErrRange, api.ErrRange},
		{none, short, -1, api.ErrRange, api.ErrShape},
		{wide, short, -1, api.ErrRange, api.ErrShape},
		{wide, short, 1, api.ErrFull, api.ErrShape},
		{wide, sample.Ring(0, 41), -1, api.ErrRange, api.ErrFull},
		{sample.Ring(0, 41), short, -1, api.ErrFull, api.ErrFull},
		{wide, outside, 4, api.ErrRange, api.ErrRange},
		{wide, none, -1, api.ErrRange, api.ErrShape},
		{wide, none, 1, api.ErrFull, api.ErrShape},
		{none, wide, 1, api.OK, api.ErrShape},
		{none, wide, 2, api.ErrRange, api.ErrShape},
		{wide, rounds(3, 4), 4, api.ErrRange, api.ErrRange},
		{wide, rounds(3, 4), 1, api.ErrFull, api.ErrFull},
		{none, sample.Ring(0, 40), 2, api.ErrRange, api.ErrRange},
		{none, sample.Ring(0, 40), 1, api.OK, api.ErrFull},
		{none, sample.Ring(0, 5), 2, api.ErrRange, api.ErrRange},
	}
	for _, c := range cases {
		want := slowly(c.d, c.secret, c.set)
		if want.noSee != c.noSee || want.noOpaque != c.noOpaque {
			t.Errorf("for %v, %v and %d, the slow way finds %v", c.d, c.secret, c.set, want)
		}
		check(t, c.d, c.secret, c.set, want)
	}
}
