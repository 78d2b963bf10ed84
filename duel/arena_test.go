package duel_test

import (
	"math"
	"slices"
	"strings"

	"stileward/api"
	"stileward/sample"
)

// arena returns an arena whose owners and rows are bytes as those of sample.Word, with a comma
// between two rows. An odd byte stands for a goal.
func arena(owners, rows, goals string) api.Arena {
	a := api.Arena{Owner: sample.Word(owners)}
	if rows != "" {
		for row := range strings.SplitSeq(rows, ",") {
			a.Next = append(a.Next, sample.Word(row))
		}
	}
	for i := range len(goals) {
		a.Goal = append(a.Goal, goals[i]&1 == 1)
	}
	return a
}

// drawn returns an arena whose owners and rows are digits, with a space between two rows; a +
// stands for a goal.
func drawn(owners, rows, goals string) api.Arena {
	a := api.Arena{Owner: sample.Digits(owners), Goal: sample.Pluses(goals)}
	for _, row := range strings.Split(rows, " ") {
		a.Next = append(a.Next, sample.Digits(row))
	}
	return a
}

// path returns the arena in which an owner moves from each place to the next one, the last of
// which is a goal where it stays.
func path(places, owner int) api.Arena {
	a := api.Arena{Owner: sample.Repeated(places, owner), Goal: make([]bool, places)}
	for p := range places {
		a.Next = append(a.Next, []int{min(p+1, places-1)})
	}
	a.Goal[places-1] = true
	return a
}

// mixed returns an arena out of the numbers of sample.Below: rows of at most as many places, and
// about one goal among as many places.
func mixed(seed uint64, places, width, goals int) api.Arena {
	below := sample.Below(seed)
	a := api.Arena{}
	for range places {
		row := make([]int, 1+below(width))
		for i := range row {
			row[i] = below(places)
		}
		a.Next = append(a.Next, row)
		a.Owner = append(a.Owner, below(2))
		a.Goal = append(a.Goal, below(goals) == 0)
	}
	return a
}

// layered returns an arena out of the numbers of sample.Below in which moves lead at most a few
// places ahead, or anywhere back: so goals are far. The last place is a goal.
func layered(seed uint64, places, width int) api.Arena {
	below := sample.Below(seed)
	a := api.Arena{Goal: make([]bool, places)}
	for p := range places {
		ahead := min(places-1, p+1+below(2))
		row := []int{ahead}
		a.Owner = append(a.Owner, below(2))
		for range below(width) {
			to := ahead
			// 1 seldom has a way back, as few places would have a rank otherwise.
			if a.Owner[p] == 0 || below(places) == 0 {
				to = below(ahead + 1)
			}
			row = slices.Insert(row, below(len(row)+1), to)
		}
		a.Next = append(a.Next, row)
	}
	a.Goal[places-1] = true
	return a
}

// all returns all arenas of some places whose rows are some ones.
func all(places int, rows [][]int) []api.Arena {
	arenas := []api.Arena{{}}
	for range places {
		var longer []api.Arena
		for _, a := range arenas {
			for _, row := range rows {
				for kind := range 4 {
					longer = append(longer, api.Arena{
						Owner: append(slices.Clone(a.Owner), kind&1),
						Next:  append(slices.Clone(a.Next), slices.Clone(row)),
						Goal:  append(slices.Clone(a.Goal), kind > 1),
					})
				}
			}
		}
		arenas = longer
	}
	return arenas
}

// roomy returns an arena with memory behind all its ends, and a function that tells whether the
// arena and that memory are still as they were.
func roomy(a api.Arena) (api.Arena, func() bool) {
	// The rows and the goals of an arena are like those of an automaton.
	d, intact := sample.RoomyDfa(api.Dfa{Letters: 1, Next: a.Next, Final: a.Goal})
	owners, intactOwners := sample.Roomy(a.Owner)
	return api.Arena{Owner: owners, Next: d.Next, Goal: d.Final}, func() bool { return intact() && intactOwners() }
}

// spoil writes over all of an arena and the memory behind its ends.
func spoil(a api.Arena) {
	sample.SpoilDfa(api.Dfa{Next: a.Next, Final: a.Goal}, -100)
	sample.Fill(a.Owner, -100)
}

// arenaCheck is an arena, and the error of Check for it.
type arenaCheck struct {
	name string
	a    api.Arena
	want api.Errno
}

// changed returns an arena behind a change of it.
func changed(a api.Arena, change func(a *api.Arena)) api.Arena {
	change(&a)
	return a
}

// checks returns arenas with and without errors.
func checks() []arenaCheck {
	return slices.Concat(goodArenas(), badShapes(), badSizes(), badOwners(), badRows())
}

// goodArenas have no error.
func goodArenas() []arenaCheck {
	return []arenaCheck{
		{"one place", path(1, 0), api.OK},
		{"one place that is no goal", drawn("1", "0", "-"), api.OK},
		{"39 places", path(39, 1), api.OK},
		{"40 places", path(40, 0), api.OK},
		{"40 times the same place in a row", drawn("0", strings.Repeat("0", 40), "-"), api.OK},
		{"40 rows of 40 places", changed(path(40, 1), func(a *api.Arena) { a.Next = slices.Repeat([][]int{sample.MixedWord(1, 40, 40)}, 40) }), api.OK},
		{"the last place in a row", drawn("01", "1 1", "-+"), api.OK},
		{"no order", mixed(1, 7, 3, 3), api.OK},
		{"no order of many", mixed(2, 40, 40, 9), api.OK},
	}
}

// badShapes have lists of different lengths, and some of them other errors as well.
func badShapes() []arenaCheck {
	large := path(41, 0)
	return []arenaCheck{
		{"nothing", api.Arena{}, api.ErrShape},
		{"no place in empty lists", api.Arena{Owner: []int{}, Next: [][]int{}, Goal: []bool{}}, api.ErrShape},
		{"no place, but an owner and a goal", api.Arena{Owner: []int{0}, Goal: []bool{true}}, api.ErrShape},
		{"no owners", changed(path(3, 0), func(a *api.Arena) { a.Owner = nil }), api.ErrShape},
		{"an owner too few", changed(path(3, 0), func(a *api.Arena) { a.Owner = a.Owner[:2] }), api.ErrShape},
		{"an owner too many", changed(path(3, 0), func(a *api.Arena) { a.Owner = append(a.Owner, 0) }), api.ErrShape},
		{"no goals", changed(path(3, 0), func(a *api.Arena) { a.Goal = nil }), api.ErrShape},
		{"a goal too few", changed(path(3, 0), func(a *api.Arena) { a.Goal = a.Goal[:2] }), api.ErrShape},
		{"a goal too many", changed(path(3, 0), func(a *api.Arena) { a.Goal = append(a.Goal, true) }), api.ErrShape},
		{"a row too few", changed(path(3, 0), func(a *api.Arena) { a.Next = a.Next[:2] }), api.ErrShape},
		{"a row too many", changed(path(3, 0), func(a *api.Arena) { a.Next = append(a.Next, []int{0}) }), api.ErrShape},
		{"41 rows without owners", api.Arena{Next: large.Next, Goal: large.Goal}, api.ErrShape},
		{"41 rows without goals", api.Arena{Next: large.Next, Owner: large.Owner}, api.ErrShape},
		{"41 rows and 40 owners", api.Arena{Owner: large.Owner[:40], Next: large.Next, Goal: large.Goal}, api.ErrShape},
		{"40 rows and 41 goals", api.Arena{Owner: large.Owner[:40], Next: path(40, 0).Next, Goal: large.Goal}, api.ErrShape},
		{"a goal too few, and no such owner", drawn("29", "0 0", "+"), api.ErrShape},
		{"an owner too few, and an empty row", drawn("0", "0 ", "++"), api.ErrShape},
		{"an empty row", drawn("010", "0  0", "++-"), api.ErrShape},
		{"a row of nil", changed(path(3, 1), func(a *api.Arena) { a.Next[0] = nil }), api.ErrShape},
		{"the last row is empty", changed(path(40, 1), func(a *api.Arena) { a.Next[39] = nil }), api.ErrShape},
		{"an empty row of a goal", drawn("0", "", "+"), api.ErrShape},
		{"an empty row ahead of no such owner", drawn("02", " 0", "--"), api.ErrShape},
		{"an empty row ahead of no such place", drawn("00", " 2", "--"), api.ErrShape},
		{"an empty row ahead of a long one", drawn("00", " "+strings.Repeat("0", 41), "--"), api.ErrShape},
	}
}

// badSizes have too many places, or too many in a row, and some of them other errors as well.
func badSizes() []arenaCheck {
	long := strings.Repeat("0", 41)
	return []arenaCheck{
		{"41 places", path(41, 0), api.ErrFull},
		{"80 places", path(80, 1), api.ErrFull},
		{"256 places", path(256, 1), api.ErrFull},
		{"296 places", path(296, 1), api.ErrFull},
		{"41 places and no such owner", changed(path(41, 0), func(a *api.Arena) { a.Owner[0] = 2 }), api.ErrFull},
		{"41 places and an empty row", changed(path(41, 0), func(a *api.Arena) { a.Next[0] = nil }), api.ErrFull},
		{"41 places and no such place", changed(path(41, 0), func(a *api.Arena) { a.Next[0][0] = -1 }), api.ErrFull},
		{"a row of 41 places", drawn("0", long, "+"), api.ErrFull},
		{"a row of 80 places", drawn("1", long[:40]+long[:40], "-"), api.ErrFull},
		{"the last row has 41 places", changed(path(40, 1), func(a *api.Arena) { a.Next[39] = make([]int, 41) }), api.ErrFull},
		{"a row of 41 that are no places", drawn("0", strings.Repeat("1", 41), "+"), api.ErrFull},
		{"a row of 41 ahead of no such owner", drawn("12", long+" 0", "--"), api.ErrFull},
		{"a row of 41 ahead of an empty one", drawn("11", long+" ", "--"), api.ErrFull},
		{"a row of 41 ahead of no such place", drawn("11", long+" 2", "--"), api.ErrFull},
	}
}

// badOwners have an owner that is neither 0 nor 1, and some of them other errors as well.
func badOwners() []arenaCheck {
	long := strings.Repeat("0", 41)
	owner := func(p, owner int) api.Arena {
		return changed(path(3, 0), func(a *api.Arena) { a.Owner[p] = owner })
	}
	return []arenaCheck{
		{"owner 2", owner(0, 2), api.ErrRange},
		{"owner -1", owner(1, -1), api.ErrRange},
		{"owner 2 of the last place", owner(2, 2), api.ErrRange},
		{"owner 256", owner(2, 256), api.ErrRange},
		{"a great owner", owner(1, 1<<32), api.ErrRange},
		{"a greater owner", owner(1, 1<<32+1), api.ErrRange},
		{"the least owner", owner(1, math.MinInt), api.ErrRange},
		{"the greatest owner", owner(1, math.MaxInt), api.ErrRange},
		{"owner 2 of an empty row", drawn("2", "", "+"), api.ErrRange},
		{"owner 2 of a long row", drawn("2", long, "+"), api.ErrRange},
		{"owner 2 ahead of an empty row", drawn("20", "0 ", "++"), api.ErrRange},
		{"owner 2 ahead of a long row", drawn("20", "0 "+long, "++"), api.ErrRange},
	}
}

// badRows have a row that leads nowhere, and some of them other errors as well.
func badRows() []arenaCheck {
	leads := func(p, to int) api.Arena {
		return changed(path(3, 1), func(a *api.Arena) { a.Next[p] = []int{0, 1, to} })
	}
	return []arenaCheck{
		{"to -1", leads(0, -1), api.ErrRange},
		{"to 3 of 3", leads(1, 3), api.ErrRange},
		{"to 4 of 3", leads(2, 4), api.ErrRange},
		{"to 1 of 1", drawn("0", "1", "+"), api.ErrRange},
		{"to 40 of 40", changed(path(40, 0), func(a *api.Arena) { a.Next[39][0] = 40 }), api.ErrRange},
		{"to 39 of 39", changed(path(39, 0), func(a *api.Arena) { a.Next[38][0] = 39 }), api.ErrRange},
		{"to 256", leads(1, 256), api.ErrRange},
		{"to a great number", leads(1, 1<<32), api.ErrRange},
		{"to the least number", leads(1, math.MinInt), api.ErrRange},
		{"to the greatest number", leads(1, math.MaxInt), api.ErrRange},
		{"the first of 40", changed(path(40, 0), func(a *api.Arena) { a.Next[0] = sample.Replaced(make([]int, 40), 0, 40) }), api.ErrRange},
		{"the last of 40", changed(path(40, 0), func(a *api.Arena) { a.Next[0] = sample.Replaced(make([]int, 40), 39, -1) }), api.ErrRange},
		{"to none ahead of an empty row", drawn("00", "02 ", "++"), api.ErrRange},
		{"to none ahead of a long row", drawn("00", "2 "+strings.Repeat("0", 41), "++"), api.ErrRange},
		{"to none from a goal", drawn("00", "2 1", "++"), api.ErrRange},
	}
}

// longArenas returns arenas with very long lists.
func longArenas() []arenaCheck {
	const long = 1 << 24
	rows := slices.Repeat([][]int{{0}}, long)
	return []arenaCheck{
		{"many places", api.Arena{Owner: make([]int, long), Next: rows, Goal: make([]bool, long)}, api.ErrFull},
		{"many owners", api.Arena{Owner: make([]int, long), Next: rows[:1], Goal: []bool{true}}, api.ErrShape},
		{"many goals", api.Arena{Owner: []int{0}, Next: rows[:1], Goal: make([]bool, long)}, api.ErrShape},
		{"many rows", api.Arena{Owner: []int{0}, Next: rows, Goal: []bool{true}}, api.ErrShape},
		{"a long row", api.Arena{Owner: []int{0}, Next: [][]int{make([]int, long)}, Goal: []bool{true}}, api.ErrFull},
	}
}
