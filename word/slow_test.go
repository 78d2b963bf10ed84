package word_test

import (
	"slices"
	"strings"

	"stileward/api"
)

// What is here follows the words of chapter 4 one by one, without the package it tests.

// checkSlowly follows the words of Check.
func checkSlowly(letters int, w []int) api.Errno {
	switch {
	case !slices.Contains([]int{1, 2, 3, 4, 5, 6}, letters):
		return api.ErrRange
	case len(w) > 80:
		return api.ErrFull
	}
	for _, a := range w {
		if !slices.Contains([]int{0, 1, 2, 3, 4, 5}[:letters], a) {
			return api.ErrRange
		}
	}
	return api.OK
}

// setSlowly follows the words of a set: for each letter it tells whether the set has it, from the last one on.
func setSlowly(letters, set int) ([]bool, bool) {
	has := make([]bool, letters)
	for i := range has {
		weight := []int{1, 2, 4, 8, 16, 32}[letters-1-i]
		has[i] = set >= weight
		if has[i] {
			set -= weight
		}
	}
	slices.Reverse(has)
	return has, set == 0
}

// onlySlowly follows the words of Only.
func onlySlowly(letters int, w []int, set int) ([]int, api.Errno) {
	if wrong := checkSlowly(letters, w); wrong != api.OK {
		return nil, wrong
	}
	has, is := setSlowly(letters, set)
	if !is {
		return nil, api.ErrRange
	}
	return slices.DeleteFunc(slices.Clone(w), func(a int) bool { return !has[a] }), api.OK
}

// mirrorSlowly follows the words of Mirror.
func mirrorSlowly(letters int, w []int) ([]int, api.Errno) {
	if wrong := checkSlowly(letters, w); wrong != api.OK {
		return nil, wrong
	}
	mirrored := slices.Clone(w)
	slices.Reverse(mirrored)
	return mirrored, api.OK
}

// bothSlowly follows the words of the errors of Sub and Less.
func bothSlowly(letters int, v, w []int) api.Errno {
	if wrong := checkSlowly(letters, v); wrong != api.OK {
		return wrong
	}
	return checkSlowly(letters, w)
}

// remains tells whether v remains of w, in which each letter is either removed or not.
func remains(v, w []int) bool {
	if len(v) == 0 || len(w) < len(v) {
		return len(v) == 0
	}
	return v[0] == w[0] && remains(v[1:], w[1:]) || remains(v, w[1:])
}

// lessSlowly compares words as texts, as both orders are the same for words of one length.
func lessSlowly(v, w []int) bool {
	if len(v) == len(w) {
		return strings.Compare(text(v), text(w)) == -1
	}
	return len(v) < len(w)
}

func text(w []int) string {
	var b strings.Builder
	for _, a := range w {
		b.WriteByte("012345"[a])
	}
	return b.String()
}
