package sample

import (
	"math"

	"stileward/api"
)

// Check is a word, and the error of word.Check for it.
type Check struct {
	Name    string
	Letters int
	Word    []int
	Want    api.Errno
}

// Checks returns words with and without errors. They are for every function
// whose errors are those of word.Check, or begin with them.
func Checks() []Check {
	return []Check{
		{"no letter in nil", 1, nil, api.OK},
		{"no letter in a word", 6, []int{}, api.OK},
		{"one letter", 1, []int{0}, api.OK},
		{"two letters", 2, []int{1, 0}, api.OK},
		{"all letters", 6, []int{0, 1, 2, 3, 4, 5}, api.OK},
		{"all letters backwards", 6, []int{5, 4, 3, 2, 1, 0}, api.OK},
		{"79 letters", 1, Repeated(79, 0), api.OK},
		{"80 letters", 1, Repeated(80, 0), api.OK},
		{"80 last letters", 6, Repeated(80, 5), api.OK},

		{"no alphabet", 0, nil, api.ErrRange},
		{"no alphabet of a letter", 0, []int{0}, api.ErrRange},
		{"no alphabet of a long word", 0, Repeated(81, 0), api.ErrRange},
		{"negative alphabet", -1, nil, api.ErrRange},
		{"negative alphabet of a long word", -1, Repeated(81, -2), api.ErrRange},
		{"least alphabet", math.MinInt, nil, api.ErrRange},
		{"alphabet of 7", 7, nil, api.ErrRange},
		{"alphabet of 7 with all letters", 7, []int{0, 1, 2, 3, 4, 5, 6}, api.ErrRange},
		{"alphabet of 7 of a long word", 7, Repeated(81, 0), api.ErrRange},
		{"alphabet of 64", 64, []int{0}, api.ErrRange},
		{"alphabet of 257", 257, []int{0}, api.ErrRange},
		{"great alphabet", 1<<32 + 1, []int{0}, api.ErrRange},
		{"greatest alphabet", math.MaxInt, []int{0}, api.ErrRange},

		{"81 letters", 1, Repeated(81, 0), api.ErrFull},
		{"82 letters", 6, Repeated(82, 5), api.ErrFull},
		{"160 letters", 2, Repeated(160, 1), api.ErrFull},
		{"256 letters", 1, Repeated(256, 0), api.ErrFull},
		{"81 elements that are no letters", 1, Repeated(81, 1), api.ErrFull},
		{"81 elements, the first of them no letter", 6, Replaced(Repeated(81, 0), 0, -1), api.ErrFull},
		{"81 elements, the last of them no letter", 6, Replaced(Repeated(81, 0), 80, 6), api.ErrFull},

		{"letter 1 of 1", 1, []int{1}, api.ErrRange},
		{"letter 2 of 2", 2, []int{0, 1, 2}, api.ErrRange},
		{"letter 3 of 3", 3, []int{0, 3, 2}, api.ErrRange},
		{"letter 4 of 4", 4, []int{4, 3, 2}, api.ErrRange},
		{"letter 5 of 5", 5, []int{4, 5}, api.ErrRange},
		{"letter 5 of 4", 4, []int{5}, api.ErrRange},
		{"letter 6 of 6", 6, []int{6, 5}, api.ErrRange},
		{"80 elements, the first of them no letter", 6, Replaced(Repeated(80, 0), 0, 6), api.ErrRange},
		{"80 elements, the last of them no letter", 6, Replaced(Repeated(80, 0), 79, -1), api.ErrRange},
		{"80 elements that are no letters", 5, Repeated(80, 5), api.ErrRange},
	}
}
