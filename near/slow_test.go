package near_test

import (
	"slices"

	"stileward/api"
	"stileward/plain"
	"stileward/word"
)

// What is here follows the words of chapter 5 one by one, without the package it tests.

// wrongOf follows the words of the errors of both functions.
func wrongOf(letters int, v, w []int) api.Errno {
	if err := word.Check(letters, v); err != nil {
		return plain.Told(err)
	}
	return plain.Told(word.Check(letters, w))
}

// edited returns the words that one edit makes of a word.
func edited(letters int, w []int) [][]int {
	var words [][]int
	for at := range len(w) + 1 {
		for a := range letters {
			words = append(words, slices.Insert(slices.Clone(w), at, a))
		}
	}
	for at := range w {
		words = append(words, slices.Delete(slices.Clone(w), at, at+1))
		for a := range letters {
			words = append(words, slices.Concat(w[:at], []int{a}, w[at+1:]))
		}
	}
	return words
}

// key is a word that can be a key of a map.
func key(w []int) string {
	text := make([]byte, len(w))
	for i, a := range w {
		text[i] = byte(a)
	}
	return string(text)
}

// distances counts the edits from a word to all words of at most n letters, as
// one edit after the other is made.
func distances(letters, n int, from []int) map[string]int {
	distance := map[string]int{key(from): 0}
	for queue := [][]int{from}; len(queue) > 0; queue = queue[1:] {
		for _, w := range edited(letters, queue[0]) {
			if _, known := distance[key(w)]; len(w) <= n && !known {
				distance[key(w)] = distance[key(queue[0])] + 1
				queue = append(queue, w)
			}
		}
	}
	return distance
}

// subsequences returns what remains of a word when some letters are removed, in all ways.
func subsequences(w []int) [][]int {
	if len(w) == 0 {
		return [][]int{nil}
	}
	rest := subsequences(w[1:])
	with := slices.Clone(rest)
	for _, v := range rest {
		with = append(with, slices.Concat(w[:1], v))
	}
	return with
}

// better tells whether a common subsequence is longer than another one, or as
// long with the smaller letter where they first differ.
func better(v, w []int) bool {
	if len(v) != len(w) {
		return len(v) > len(w)
	}
	for i, a := range v {
		if a != w[i] {
			return a < w[i]
		}
	}
	return false
}

// commonOfAll is the best of all subsequences of v that are subsequences of w.
func commonOfAll(letters int, v, w []int) []int {
	var best []int
	for _, u := range subsequences(v) {
		if is, err := word.Sub(letters, u, w); err == nil && is && better(u, best) {
			best = u
		}
	}
	return best
}

// pair is what is left of two words.
type pair struct{ v, w int }

// distanceSlowly tries what may become of the first letters: both are left or
// replaced, that of v is removed, or that of w is inserted.
func distanceSlowly(v, w []int, known map[pair]int) int {
	if len(v) == 0 || len(w) == 0 {
		return len(v) + len(w)
	}
	here := pair{len(v), len(w)}
	if distance, is := known[here]; is {
		return distance
	}
	distance := distanceSlowly(v[1:], w[1:], known)
	if v[0] != w[0] {
		distance++
	}
	distance = min(distance, 1+distanceSlowly(v[1:], w, known), 1+distanceSlowly(v, w[1:], known))
	known[here] = distance
	return distance
}

// commonSlowly tries what may become of the first letters: one of them is
// removed, or both are the first one of the common subsequence.
func commonSlowly(v, w []int, known map[pair][]int) []int {
	if len(v) == 0 || len(w) == 0 {
		return nil
	}
	here := pair{len(v), len(w)}
	if best, is := known[here]; is {
		return best
	}
	best := commonSlowly(v[1:], w, known)
	if other := commonSlowly(v, w[1:], known); better(other, best) {
		best = other
	}
	if v[0] == w[0] {
		if other := slices.Concat(v[:1], commonSlowly(v[1:], w[1:], known)); better(other, best) {
			best = other
		}
	}
	known[here] = best
	return best
}
