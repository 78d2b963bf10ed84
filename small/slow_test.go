package small_test

import (
	"slices"

	"stileward/api"
	"stileward/dfa"
	"stileward/sample"
)

// What is here follows the words of chapter 8 one by one, without the package it tests.

// far is more letters than any word has that is needed to tell two states apart.
const far = 1000

// lettersApart returns, for each state of a and each one of b, how many letters a
// word has at the least that is accepted from exactly one of them, or far if none is.
func lettersApart(a, b api.Dfa) [][]int {
	least := make([][]int, len(a.Next))
	for s := range least {
		least[s] = sample.Repeated(len(b.Next), far)
		for t := range least[s] {
			if a.Final[s] != b.Final[t] {
				least[s][t] = 0
			}
		}
	}
	for changed := true; changed; {
		changed = false
		for s, row := range a.Next {
			for t, other := range b.Next {
				for letter := range row {
					if n := least[row[letter]][other[letter]] + 1; n < least[s][t] {
						least[s][t] = n
						changed = true
					}
				}
			}
		}
	}
	return least
}

// minimalSlowly leaves out every state from which the same words are accepted as
// from one that is found before it.
func minimalSlowly(d api.Dfa) api.Dfa {
	// The pairs of the product of an automaton and itself are its reached states,
	// twice each, which 6.3 numbers as 7.2 does.
	d, _ = dfa.Both(d, d)
	least := lettersApart(d, d)
	like := func(s int) int { return slices.Index(least[s], far) }
	var left []int
	for s := range d.Next {
		if like(s) == s {
			left = append(left, s)
		}
	}
	minimal := api.Dfa{Letters: d.Letters}
	for _, s := range left {
		var row []int
		for _, to := range d.Next[s] {
			row = append(row, slices.Index(left, like(to)))
		}
		minimal.Next = append(minimal.Next, row)
		minimal.Final = append(minimal.Final, d.Final[s])
	}
	return minimal
}

// sameSlowly takes the smallest letter that leads nearer to states that are told
// apart by the empty word, as long as it is not at such states.
func sameSlowly(a, b api.Dfa) (bool, []int) {
	least := lettersApart(a, b)
	s, t := a.Start, b.Start
	if least[s][t] == far {
		return true, nil
	}
	var w []int
	for least[s][t] > 0 {
		letter := 0
		for least[a.Next[s][letter]][b.Next[t][letter]] >= least[s][t] {
			letter++
		}
		w = append(w, letter)
		s, t = a.Next[s][letter], b.Next[t][letter]
	}
	return false, w
}

// languageOf returns for each of some words a byte that tells whether it is accepted.
func languageOf(d api.Dfa, words [][]int) string {
	language := make([]byte, len(words))
	for i, w := range words {
		s := d.Start
		for _, letter := range w {
			s = d.Next[s][letter]
		}
		if d.Final[s] {
			language[i] = 1
		}
	}
	return string(language)
}

// inflated returns an automaton of more states that accepts the same words. There are
// several copies of each state, and as successor any copy of the right one.
func inflated(seed uint64, d api.Dfa, states int) api.Dfa {
	n := len(d.Next)
	anyCopy := func(s, number int) int {
		copies := (states-1-s)/n + 1
		return s + n*(number%copies)
	}
	mixed := sample.Mixed(seed, states, d.Letters)
	big := api.Dfa{Letters: d.Letters, Start: anyCopy(d.Start, mixed.Start)}
	for s, row := range mixed.Next {
		for letter, number := range row {
			row[letter] = anyCopy(d.Next[s%n][letter], number)
		}
		big.Next = append(big.Next, row)
		big.Final = append(big.Final, d.Final[s%n])
	}
	return big
}

// late returns two automata of 40 states each, which are told apart by 78 times one of
// 6 letters, and by no shorter word. There is none that two such automata need longer.
func late(letter int) (a, b api.Dfa) {
	a, b = onlyBy(letter, sample.NoneFinal(sample.Ring(0, 40))), onlyBy(letter, sample.NoneFinal(sample.Ring(1, 39)))
	behind := func(d api.Dfa, n int) int {
		s := d.Start
		for range n {
			s = d.Next[s][letter]
		}
		return s
	}
	b.Final[behind(b, 78)] = true
	for range 80 {
		for n := range 78 {
			final := a.Final[behind(a, n)] || b.Final[behind(b, n)]
			a.Final[behind(a, n)], b.Final[behind(b, n)] = final, final
		}
	}
	return a, b
}

// onlyBy makes of an automaton of one letter one of 6, of which all others lead to Start.
func onlyBy(letter int, one api.Dfa) api.Dfa {
	d := api.Dfa{Letters: 6, Start: one.Start, Final: slices.Clone(one.Final)}
	for _, row := range one.Next {
		d.Next = append(d.Next, sample.Replaced(sample.Repeated(6, one.Start), letter, row[0]))
	}
	return d
}
