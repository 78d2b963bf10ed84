package veil_test

import (
	"slices"
	"strings"

	"stileward/api"
	"stileward/dfa"
	"stileward/plain"
	"stileward/sample"
)

// What is here follows the words of chapter 21 one by one, without the package it tests.

// answers are what the three functions say of an automaton, a secret and a set of letters, and
// what is wrong for each of them.
type answers struct {
	see, lift api.Dfa
	opaque    bool
	first     []int

	noSee, noLift, noOpaque api.Errno
}

// slowly returns the answers for some arguments, be they such or not.
func slowly(d, secret api.Dfa, set int) answers {
	var a answers
	isNone := set < 0 || set > 1<<max(0, d.Letters)-1
	alone, both := plain.Told(dfa.Check(d)), plain.Told(dfa.CheckBoth(d, secret))
	switch {
	case alone != api.OK:
		a.noSee, a.noLift = alone, alone
	case isNone:
		a.noSee, a.noLift = api.ErrRange, api.ErrRange
	default:
		a.see, a.noSee = seeSlowly(d, set)
		a.lift = liftSlowly(d, set)
	}
	switch {
	case both != api.OK:
		a.noOpaque = both
	case isNone:
		a.noOpaque = api.ErrRange
	default:
		a.opaque, a.first, a.noOpaque = opaqueSlowly(d, secret, set)
	}
	return a
}

// staying returns an automaton in which some letters lead from each state to itself.
func staying(d api.Dfa, stays func(letter int) bool) api.Dfa {
	d = sample.CloneDfa(d)
	for s, row := range d.Next {
		for letter := range row {
			if stays(letter) {
				row[letter] = s
			}
		}
	}
	return d
}

// liftSlowly follows the words of Lift.
func liftSlowly(d api.Dfa, set int) api.Dfa {
	return staying(d, func(letter int) bool { return !sample.Has(set, letter) })
}

// view is what is known of an automaton by what is seen of its words: where it may be behind each
// of them, with a + for each such state, and by which letters one leads to another. Only the first
// of what tells the same is there, and these are in the order of word.Less.
type view struct {
	seen   [][]int
	places []string
	rows   [][]int
}

// viewOf goes on until nothing is new, or there is too much.
func viewOf(d api.Dfa, set int) view {
	ways := sample.Ways(staying(d, func(letter int) bool { return sample.Has(set, letter) }))
	v := view{seen: [][]int{nil}, places: []string{around(ways, []int{d.Start})}}
	for i := 0; i < len(v.places) && len(v.places) <= 40; i++ {
		var row []int
		for letter := range d.Letters {
			var behind []int
			for s, next := range d.Next {
				if v.places[i][s] == '+' && sample.Has(set, letter) {
					behind = append(behind, next[letter])
				}
			}
			place := around(ways, behind)
			if !slices.Contains(v.places, place) {
				v.places = append(v.places, place)
				v.seen = append(v.seen, append(slices.Clone(v.seen[i]), letter))
			}
			row = append(row, slices.Index(v.places, place))
		}
		v.rows = append(v.rows, row)
	}
	return v
}

// around has a + for each state to which there is a way from one of some.
func around(ways [][]bool, from []int) string {
	var text strings.Builder
	for to := range ways {
		is := slices.ContainsFunc(from, func(s int) bool { return ways[s][to] })
		text.WriteByte(map[bool]byte{true: '+', false: '-'}[is])
	}
	return text.String()
}

// isIn tells whether one of some states may be that of a place.
func isIn(place string, states []bool) bool {
	for s, is := range states {
		if is && place[s] == '+' {
			return true
		}
	}
	return false
}

// seeSlowly makes a state of each place.
func seeSlowly(d api.Dfa, set int) (api.Dfa, api.Errno) {
	v := viewOf(d, set)
	if len(v.places) > 40 {
		return api.Dfa{}, api.ErrFull
	}
	seen := api.Dfa{Letters: d.Letters, Next: v.rows}
	for _, place := range v.places {
		seen.Final = append(seen.Final, isIn(place, d.Final))
	}
	return seen, api.OK
}

// opaqueSlowly looks for the first place in which all words of d are secret, and some are. The
// products have the same states, and so what is seen of them, and the product of that, have as
// many as there are places.
func opaqueSlowly(d, secret api.Dfa, set int) (bool, []int, api.Errno) {
	both, full := dfa.Both(d, secret)
	if full != nil {
		return false, nil, api.ErrFull
	}
	but, _ := dfa.But(d, secret)
	v := viewOf(both, set)
	if len(v.places) > 40 {
		return false, nil, api.ErrFull
	}
	for i, place := range v.places {
		if isIn(place, both.Final) && !isIn(place, but.Final) {
			return false, v.seen[i], api.OK
		}
	}
	return true, nil, api.OK
}
