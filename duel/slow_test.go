package duel_test

import (
	"slices"

	"stileward/api"
)

// What is here follows the words of chapter 19 one by one, without the package it tests.

// answers are what all functions say of an arena, and what is wrong with it.
type answers struct {
	ranks, moves []int

	wrong api.Errno
}

// slowly returns the answers for an arena, be it one or not.
func slowly(a api.Arena) answers {
	if wrong := wrongSlowly(a); wrong != api.OK {
		return answers{wrong: wrong}
	}
	ranks := ranksSlowly(a)
	return answers{ranks: ranks, moves: movesSlowly(a, ranks)}
}

// wrongSlowly returns the first error of an arena.
func wrongSlowly(a api.Arena) api.Errno {
	places := len(a.Next)
	switch {
	case places < 1, len(a.Owner) != places, len(a.Goal) != places:
		return api.ErrShape
	case places > 40:
		return api.ErrFull
	}
	for p, row := range a.Next {
		switch {
		case a.Owner[p] < 0, a.Owner[p] > 1:
			return api.ErrRange
		case len(row) < 1:
			return api.ErrShape
		case len(row) > 40:
			return api.ErrFull
		case slices.Min(row) < 0, slices.Max(row) > places-1:
			return api.ErrRange
		}
	}
	return api.OK
}

// play is an arena, and whether a goal is reached for sure from a place within some moves.
type play struct {
	arena api.Arena
	known map[[2]int]bool
}

// reaches tells whether 0 can reach a goal within n moves from a place, whatever 1 does.
func (g play) reaches(p, n int) bool {
	if known, is := g.known[[2]int{p, n}]; is {
		return known
	}
	does := g.arena.Goal[p]
	if !does && n > 0 {
		can, has := false, true
		for _, to := range g.arena.Next[p] {
			if g.reaches(to, n-1) {
				can = true
			} else {
				has = false
			}
		}
		does = can && (has || g.arena.Owner[p] == 0)
	}
	g.known[[2]int{p, n}] = does
	return does
}

// ranksSlowly tries for each place more and more moves; no number of moves helps if twice as
// many as there are places do not.
func ranksSlowly(a api.Arena) []int {
	g := play{a, map[[2]int]bool{}}
	ranks := make([]int, len(a.Next))
	for p := range ranks {
		for ranks[p] <= 2*len(ranks) && !g.reaches(p, ranks[p]) {
			ranks[p]++
		}
		if ranks[p] > 2*len(ranks) {
			ranks[p] = -1
		}
	}
	return ranks
}

// movesSlowly looks through each row from its end.
func movesSlowly(a api.Arena, ranks []int) []int {
	moves := make([]int, len(ranks))
	for p, row := range a.Next {
		moves[p] = -1
		for i := len(row) - 1; i >= 0; i-- {
			nearer := a.Owner[p] == 0 && ranks[p] > 0 && ranks[row[i]] == ranks[p]-1
			away := a.Owner[p] == 1 && ranks[p] == -1 && ranks[row[i]] == -1
			if nearer || away {
				moves[p] = row[i]
			}
		}
	}
	return moves
}

// strategies returns all ways in which a player can always make the same move at the same
// place: the moves at its places, and -1 at all others.
func strategies(a api.Arena, player int) [][]int {
	all := [][]int{{}}
	for p, row := range a.Next {
		if a.Owner[p] != player {
			row = []int{-1}
		}
		var longer [][]int
		for _, s := range all {
			for _, to := range row {
				longer = append(longer, append(slices.Clone(s), to))
			}
		}
		all = longer
	}
	return all
}

// far is more than all moves to a goal: there is none on the way.
const far = 1000

// length tells after how many moves a goal is reached if both players keep to their strategies.
func length(a api.Arena, s0, s1 []int, p int) int {
	for n := range len(a.Next) + 1 {
		if a.Goal[p] {
			return n
		}
		p = max(s0[p], s1[p])
	}
	return far
}

// longest tells for each place after how many moves a goal is reached at the latest, if 0 keeps
// to a strategy and 1 to any of some.
func longest(a api.Arena, s0 []int, ofOne [][]int) []int {
	worst := make([]int, len(a.Next))
	for _, s1 := range ofOne {
		for p := range worst {
			worst[p] = max(worst[p], length(a, s0, s1, p))
		}
	}
	return worst
}

// soonest tells for each place after how many moves a goal is reached at the earliest, if 1 keeps
// to a strategy and 0 to any of some.
func soonest(a api.Arena, ofZero [][]int, s1 []int) []int {
	best := make([]int, len(a.Next))
	for p := range best {
		best[p] = far
	}
	for _, s0 := range ofZero {
		for p := range best {
			best[p] = min(best[p], length(a, s0, s1, p))
		}
	}
	return best
}

// with returns a strategy with other moves where there are some.
func with(s, moves []int) []int {
	s = slices.Clone(s)
	for p, to := range moves {
		if to >= 0 && s[p] >= 0 {
			s[p] = to
		}
	}
	return s
}
