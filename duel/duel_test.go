package duel_test

import (
	"slices"
	"strings"
	"testing"

	"stileward/api"
	"stileward/dfa"
	"stileward/duel"
	"stileward/plain"
	"stileward/reach"
	"stileward/safe"
	"stileward/sample"
)

// check demands of all functions some answers.
func check(t *testing.T, a api.Arena, want answers) {
	t.Helper()
	if err := duel.Check(a); plain.Told(err) != want.wrong {
		t.Errorf("Check(%v) = %v, want %v", a, err, want.wrong)
	}
	if ranks, err := duel.Ranks(a); !slices.Equal(ranks, want.ranks) || plain.Told(err) != want.wrong {
		t.Errorf("Ranks(%v) = %v, %v, want %v, %v", a, ranks, err, want.ranks, want.wrong)
	}
	if moves, err := duel.Moves(a); !slices.Equal(moves, want.moves) || plain.Told(err) != want.wrong {
		t.Errorf("Moves(%v) = %v, %v, want %v, %v", a, moves, err, want.moves, want.wrong)
	}
}

// results returns what the functions find for an arena without an error.
func results(t *testing.T, a api.Arena) (ranks, moves []int) {
	t.Helper()
	ranks, err := duel.Ranks(a)
	moves, wrong := duel.Moves(a)
	if err != nil || wrong != nil {
		t.Fatalf("of %v, the errors are %v and %v", a, err, wrong)
	}
	return ranks, moves
}

// example is an arena as drawn takes it, and its ranks and moves: digits, and - for -1.
type example struct {
	name                string
	owners, rows, goals string
	ranks, moves        string
}

// marks returns the numbers of a text: digits, and - for -1.
func marks(text string) []int {
	numbers := sample.Digits(text)
	for i := range numbers {
		if text[i] == '-' {
			numbers[i] = -1
		}
	}
	return numbers
}

// ofZero are examples in which 0 alone has a choice.
func ofZero() []example {
	return []example{
		{"a goal", "0", "0", "+", "0", "-"},
		{"no goal", "0", "0", "-", "-", "-"},
		{"one move", "00", "1 1", "-+", "10", "1-"},
		{"a goal with a way back", "00", "1 0", "-+", "10", "1-"},
		{"a goal that is the first place", "00", "0 10", "+-", "01", "-0"},
		{"two moves", "000", "1 2 0", "--+", "210", "12-"},
		{"not staying", "00", "01 1", "-+", "10", "1-"},
		{"no way to the goal", "00", "0 1", "-+", "-0", "--"},
		{"two goals", "000", "12 1 2", "-++", "100", "1--"},
		{"two goals, the last place first", "000", "21 1 2", "-++", "100", "2--"},
		{"the goal, not the place next to it", "0000", "12 3 2 3", "--++", "1100", "23--"},
		{"the shorter of two ways", "0000", "12 2 3 3", "---+", "2210", "223-"},
		{"the first of two ways", "0000", "021 3 3 3", "---+", "2110", "233-"},
		{"the same place twice", "000", "0221 1 2", "-++", "100", "2--"},
		{"the only good one of three", "0000", "0321 1 2 3", "-+--", "10--", "1---"},
		{"round and round", "000", "1 0 2", "--+", "--0", "---"},
		{"a way back to a goal", "000", "1 2 1", "-+-", "101", "1-1"},
		{"no way back to a goal", "000", "1 2 2", "-+-", "10-", "1--"},
	}
}

// ofOne are examples in which 1 alone has a choice.
func ofOne() []example {
	return []example{
		{"a goal of 1", "1", "0", "+", "0", "-"},
		{"no goal of 1", "1", "0", "-", "-", "0"},
		{"one move of 1", "11", "1 1", "-+", "10", "--"},
		{"1 stays", "11", "01 1", "-+", "-0", "0-"},
		{"1 stays, though the goal is first", "11", "10 1", "-+", "-0", "0-"},
		{"two goals to choose from", "111", "12 1 2", "-++", "100", "---"},
		{"the longest way", "1111", "312 2 3 3", "---+", "3210", "----"},
		{"the longest way first", "1111", "132 2 3 3", "---+", "3210", "----"},
		{"the goal twice", "111", "212 2 2", "--+", "210", "---"},
		{"the goal alone", "1111", "123 0 2 3", "+---", "01--", "--23"},
		{"two places to stay, the last place first", "1111", "3211 1 2 3", "---+", "---0", "212-"},
		{"two places to stay, the first place first", "1111", "3122 1 2 3", "---+", "---0", "112-"},
		{"to and fro", "111", "12 20 2", "--+", "--0", "10-"},
		{"to where there is no goal", "1111", "13 2 2 3", "--+-", "-10-", "3--3"},
		{"from a goal to where there is none", "111", "1 12 2", "-+-", "10-", "--2"},
	}
}

// ofBoth are examples in which both have places.
func ofBoth() []example {
	return []example{
		{"0 chooses behind 1", "100", "12 12 2", "--+", "210", "-2-"},
		{"1 chooses behind 0", "010", "1 02 2", "--+", "--0", "-0-"},
		{"both stay", "101", "12 12 2", "---", "---", "1-2"},
		{"0 comes to the goal, and 1 stays", "010", "12 12 2", "--+", "1-0", "21-"},
		{"0 lets 1 move where it has no choice", "0110", "1 2 3 3", "---+", "3210", "1---"},
		{"each move counts, whoever makes it", "0101", "1 2 3 3", "---+", "3210", "1-3-"},
		{"1 would go back", "01000", "12 04 3 4 4", "----+", "34210", "2-34-"},
		{"1 would go round", "01100", "12 34 4 2 4", "----+", "23120", "2--2-"},
		{"the worst moves of 1 count", "0110000", "12 36 45 4 6 6 6", "------+", "3322110", "2--466-"},
		{"1 ahead of 0", "1010100", "12 23 34 45 56 66 6", "------+", "4332210", "-3-5-6-"},
		{"0 ahead of 1", "0101010", "12 23 34 45 56 60 6", "------+", "3625140", "2-4-6--"},
	}
}

// 19.2: the ranks of places, and the moves of both players.
func TestExamples(t *testing.T) {
	for _, c := range slices.Concat(ofZero(), ofOne(), ofBoth()) {
		t.Run(c.name, func(t *testing.T) {
			a := drawn(c.owners, c.rows, c.goals)
			want := answers{ranks: marks(c.ranks), moves: marks(c.moves)}
			if slow := slowly(a); !slices.Equal(slow.ranks, want.ranks) || !slices.Equal(slow.moves, want.moves) {
				t.Errorf("the slow way finds %v, want %v", slow, want)
			}
			check(t, a, want)
		})
	}
}

// 19.2: along a path of any length, each place has a rank of its own, whoever moves; if 1 can
// stay somewhere, it does, and there is no rank up to there.
func TestPaths(t *testing.T) {
	for places := 1; places <= 40; places++ {
		for owner := range 2 {
			want := answers{}
			for p := range places {
				want.ranks, want.moves = append(want.ranks, places-1-p), append(want.moves, -1)
				if owner == 0 && p < places-1 {
					want.moves[p] = p + 1
				}
			}
			a := path(places, owner)
			check(t, a, want)
			stays := places / 2
			a.Owner[stays], a.Next[stays] = 1, append(a.Next[stays], stays)
			for p := 0; p <= stays && stays < places-1; p++ {
				want.ranks[p], want.moves[p] = -1, -1
				if a.Owner[p] == 1 {
					want.moves[p] = min(p+1, stays)
				}
			}
			check(t, a, want)
		}
	}
}

// 19.2: in all arenas of one and two places with rows of up to three places, and of three places
// with each set of places as a row, the answers are those of the slow way.
func TestAll(t *testing.T) {
	for _, c := range []struct {
		places int
		rows   [][]int
	}{{1, sample.Words(4, 1)[1:]}, {2, sample.Words(3, 2)[1:]}, {3, sets(3)}} {
		for _, a := range all(c.places, c.rows) {
			check(t, a, slowly(a))
		}
	}
}

// sets returns all sets of some places, but the empty one, as rows.
func sets(places int) [][]int {
	var rows [][]int
	for set := 1; set < 1<<places; set++ {
		var row []int
		for p := range places {
			if set>>p&1 == 1 {
				row = append(row, p)
			}
		}
		rows = append(rows, row)
	}
	return rows
}

// 19.2: in all arenas of three places and some of four and five, some strategy of 0 reaches a
// goal within as many moves as the rank says, whatever strategy 1 has, and none does sooner; and
// the moves of both are those of such strategies.
func TestStrategies(t *testing.T) {
	arenas := all(3, sets(3))
	for seed := range uint64(400) {
		arenas = append(arenas, mixed(seed, 4+int(seed)%2, 3, 5), layered(seed, 4+int(seed)%2, 3))
	}
	for _, a := range arenas {
		ranks, moves := results(t, a)
		ofZero, ofOne := strategies(a, 0), strategies(a, 1)
		for p, n := range ranks {
			if n < 0 {
				ranks[p] = far
			}
		}
		best := sample.Repeated(len(ranks), far)
		for _, s0 := range ofZero {
			for p, n := range longest(a, s0, ofOne) {
				best[p] = min(best[p], n)
			}
			if kept := longest(a, with(s0, moves), ofOne); !slices.Equal(kept, ranks) {
				t.Errorf("in %v, 0 reaches goals by %v within %v, want %v", a, moves, kept, ranks)
			}
		}
		if !slices.Equal(best, ranks) {
			t.Errorf("in %v, 0 can reach goals within %v, but the ranks are %v", a, best, ranks)
		}
		for _, s1 := range ofOne {
			for p, n := range soonest(a, ofZero, with(s1, moves)) {
				if ranks[p] == far && n != far {
					t.Errorf("in %v, 1 does not avoid goals by %v from place %d", a, moves, p)
				}
			}
		}
	}
}

// 19.2: in arenas of up to 40 places, with short and long rows, the answers are those of the slow way.
func TestMixed(t *testing.T) {
	for seed := range uint64(600) {
		places := 1 + int(seed)%40
		for _, width := range []int{1, 2, 3, 40} {
			for _, a := range []api.Arena{mixed(seed, places, width, 1+places/3), layered(seed, places, width)} {
				check(t, a, slowly(a))
			}
		}
	}
}

// mirrored returns an arena with its places in the opposite order.
func mirrored(a api.Arena) api.Arena {
	owners, next, goals := slices.Clone(a.Owner), slices.Clone(a.Next), slices.Clone(a.Goal)
	slices.Reverse(owners)
	slices.Reverse(next)
	slices.Reverse(goals)
	for p, row := range next {
		next[p] = slices.Clone(row)
		for i := range row {
			next[p][i] = len(next) - 1 - row[i]
		}
	}
	return api.Arena{Owner: owners, Next: next, Goal: goals}
}

// 19.2: with other numbers, the same places have the same ranks and moves; the order of a row
// and places that are there twice do not change ranks.
func TestOrder(t *testing.T) {
	for seed := range uint64(800) {
		a := layered(seed, 1+int(seed)%40, 4)
		ranks, moves := results(t, a)
		other, back := results(t, mirrored(a))
		slices.Reverse(other)
		slices.Reverse(back)
		for p, to := range back {
			if to >= 0 {
				back[p] = len(back) - 1 - to
			}
		}
		if !slices.Equal(other, ranks) || !slices.Equal(back, moves) {
			t.Errorf("of %v, the ranks are %v and the moves %v, but with other numbers %v and %v", a, ranks, moves, other, back)
		}
		for p, row := range a.Next {
			behind := slices.Clone(row)
			slices.Reverse(behind)
			a.Next[p] = slices.Concat(behind, row)
		}
		if other, _ := results(t, a); !slices.Equal(other, ranks) {
			t.Errorf("of %v, the ranks are %v, want %v", a, other, ranks)
		}
	}
}

// automaton returns a mixed automaton of some states, and the arena of one owner whose places
// are its states, and whose goals are its final states.
func automaton(seed uint64, states, owner int) (api.Dfa, api.Arena) {
	d := sample.OneFinal(seed, states, 1+int(seed)%3)
	return d, api.Arena{Owner: sample.Repeated(states, owner), Next: d.Next, Goal: d.Final}
}

// 19.2: if 0 alone moves, the ranks are the lengths of the first words that an automaton accepts
// from its states, and the moves are by their first letters.
func TestFirstWords(t *testing.T) {
	for seed := range uint64(600) {
		d, a := automaton(seed, 1+int(seed)%40, 0)
		ranks, moves := results(t, a)
		for p := range ranks {
			w, err := reach.First(sample.Started(d, p))
			n, to := len(w), -1
			if err != nil {
				n = -1
			}
			if n > 0 {
				to = d.Next[p][w[0]]
			}
			if ranks[p] != n || moves[p] != to {
				t.Errorf("from place %d of %v, rank %d, move %d, want %d, %d", p, a, ranks[p], moves[p], n, to)
			}
		}
	}
}

// 19.2: if 1 alone moves, the rank of a place is the smallest number of letters for which no word
// from there avoids the final states all the time.
func TestAvoidingWords(t *testing.T) {
	for seed := range uint64(600) {
		d, a := automaton(seed, 1+int(seed)%12, 1)
		away, err := dfa.Not(d)
		if err != nil {
			t.Fatalf("Not(%v) = %v", d, err)
		}
		away, _ = safe.Always(away)
		ranks, _ := results(t, a)
		for p := range ranks {
			want := -1
			for n := 20; n >= 0; n-- {
				words, err := reach.Count(sample.Started(away, p), n)
				if err != nil {
					t.Fatalf("Count = %v", err)
				}
				if words > 0 {
					break
				}
				want = n
			}
			if ranks[p] != want {
				t.Errorf("from place %d of %v, rank %d, want %d", p, a, ranks[p], want)
			}
		}
	}
}

// 19.1: the errors of arenas; with an error there is nothing else.
func TestErrors(t *testing.T) {
	for _, c := range checks() {
		want := slowly(c.a)
		if want.wrong != c.want {
			t.Fatalf("%s: the slow way finds %v, want %v", c.name, want.wrong, c.want)
		}
		check(t, c.a, want)
	}
}

// 19.1: of several places with errors, the first one decides, and at each place the owner comes
// first, then the length of the row, and then its elements.
func TestFirstError(t *testing.T) {
	type fault struct {
		owner, row string
		want       api.Errno
	}
	long := strings.Repeat("0", 41)
	faults := []fault{
		{"2", "", api.ErrRange}, {"2", long, api.ErrRange}, {"2", "9", api.ErrRange}, {"2", "0", api.ErrRange},
		{"0", "", api.ErrShape}, {"1", "", api.ErrShape},
		{"0", long, api.ErrFull}, {"1", long + "9", api.ErrFull}, {"0", "9" + long, api.ErrFull},
		{"0", "9", api.ErrRange}, {"1", "03", api.ErrRange}, {"0", "90", api.ErrRange},
		{"0", "2", api.OK}, {"1", "012", api.OK},
	}
	for _, first := range faults {
		for _, second := range faults {
			for _, third := range faults[len(faults)-4:] {
				want := third.want
				if second.want != api.OK {
					want = second.want
				}
				if first.want != api.OK {
					want = first.want
				}
				a := drawn(first.owner+second.owner+third.owner, first.row+" "+second.row+" "+third.row, "---")
				if err := duel.Check(a); plain.Told(err) != want {
					t.Errorf("Check(%v) = %v, want %v", a, err, want)
				}
			}
		}
	}
}
