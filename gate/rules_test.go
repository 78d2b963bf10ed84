package gate_test

import (
	"math"
	"slices"
	"testing"

	"stileward/api"
	"stileward/gate"
	"stileward/sample"
)

// P1: whatever the arguments, all functions return normally and do what the words say.
func FuzzGate(f *testing.F) {
	f.Add(1, 0, "\x00", "\x01", "")
	f.Add(3, 0, "\x00\x01\x02\x00\x00\x02\x02\x02\x02", "\x01\x01\x00", "\x00\x01\x02\x01")
	f.Add(2, 4, "\x00\x00\x00\x02\x01\x00\x03\x04\x01\x02", "\x00\x01\x01\x00\x01", "\x00\x01\xff\x00\x02\x00\x01")
	f.Add(6, 1, "\x00\x01\x00\x01\x00\x01\x01\x01\x01\x00\x00\x00", "\x01\x00", "\x05")
	f.Add(0, 0, "", "", "")
	f.Add(-1, -1, "\xff", "\x00", "\xff")
	f.Add(7, math.MaxInt, "\x00\x00\x00\x00\x00\x00\x00", "\x01", "\x06")
	f.Fuzz(func(t *testing.T, letters, start int, rows, finals, text string) {
		check(t, sample.Dfa(letters, start, rows, finals), sample.Word(text))
	})
}

// P1: New returns nil together with an error, and no method panics then.
func TestNoGate(t *testing.T) {
	g, err := gate.New(api.Dfa{})
	if g != nil || err == nil {
		t.Fatalf("New of nothing = %v, %v", g, err)
	}
	for _, a := range []int{0, 1, -1, math.MaxInt} {
		if got := offered(g, a); !equalSteps(got, step{wrong: api.ErrRange}) {
			t.Errorf("the offer %d has %v", a, got)
		}
	}
}

// P2, P4: New leaves its argument and what is behind it as it is, and reads nothing there.
func TestArgumentsAreLeft(t *testing.T) {
	for _, c := range sample.DfaChecks() {
		d, intact := sample.RoomyDfa(c.Dfa)
		check(t, d, []int{0, 0, -1, 0})
		if !intact() {
			t.Errorf("%s: the argument, or memory behind it, is changed", c.Name)
		}
	}
}

// 16.1, P2: later changes of the automaton have no effect on the gate, nor has the gate any on it.
func TestLaterChanges(t *testing.T) {
	row := []int{1, 0}
	shared := api.Dfa{Letters: 2, Next: [][]int{row, row, row}, Final: []bool{true, true, false}}
	for _, given := range []api.Dfa{noTwo(), oneWord(), inTurn(), shared, sample.WithFinals(sample.Ring(3, 1), "+++-")} {
		offers := []int{0, 1, 0, 1, 1, 0}
		offers = offers[:min(len(offers), 3*given.Letters)]
		want := slowly(given, offers)
		for before := range len(offers) {
			d, intact := sample.RoomyDfa(given)
			g := opened(t, d)
			checkSteps(t, given, g, offers[:before], want[:before])
			if !intact() {
				t.Errorf("%v, or memory behind it, is changed", given)
			}
			spoilt := sample.SpoilDfa(d, -100)
			checkSteps(t, given, g, offers[before:], want[before:])
			if !spoilt() {
				t.Errorf("%v is changed by its gate", given)
			}
		}
	}
}

// P2: words that Out returns share no memory with the gate or with each other, not even behind their ends.
func TestWordsAreNew(t *testing.T) {
	g := opened(t, noTwo())
	passed := sample.MixedWord(5, 80, 2)
	for i, a := range passed {
		first, again := g.Out(), g.Out()
		sample.Fill(first, -1)
		sample.Fill(again, -2)
		if slices.Contains(first[:cap(first)], -2) || !slices.Equal(g.Out(), passed[:i]) {
			t.Fatalf("behind %v, Out shares memory: it is %v", passed[:i], g.Out())
		}
		kept := g.Out()
		if got := offered(g, a); !got.passes || !slices.Equal(kept, passed[:i]) {
			t.Fatalf("behind %v, %d has %v, and what was Out became %v", passed[:i], a, got, kept)
		}
		sample.Fill(kept, -3)
	}
	if !slices.Equal(g.Out(), passed) {
		t.Errorf("Out is %v, want %v", g.Out(), passed)
	}
}

// P2: results depend on the earlier calls on the same gate alone; Out and Shut change nothing.
func TestRepeats(t *testing.T) {
	g := opened(t, inTurn())
	want := []int{}
	for i, c := range sample.DfaChecks() {
		check(t, c.Dfa, []int{0, 0, 0})
		for range 3 {
			if !slices.Equal(g.Out(), want) || g.Shut() {
				t.Fatalf("behind %d letters in turn, Out is %v and Shut %v", len(want), g.Out(), g.Shut())
			}
		}
		if got := offered(g, i%2); i < 80 && !got.passes {
			t.Fatalf("%d does not pass behind %v: %v", i%2, want, got)
		}
		if want = append(want, i%2); len(want) == 80 {
			break
		}
	}
}

// P3: each error is an Errno.
func TestErrorsAreErrnos(t *testing.T) {
	for _, c := range sample.DfaChecks() {
		if c.Want == api.OK {
			continue
		}
		if _, err := gate.New(c.Dfa); !sample.OnlyErrno(err, c.Want) {
			t.Errorf("%s: the error is %v, not %v alone", c.Name, err, c.Want)
		}
	}
	if _, err := gate.New(sample.Ring(1, 1)); !sample.OnlyErrno(err, api.ErrShape) {
		t.Errorf("of class 2, the error is %v", err)
	}
	if _, err := gate.New(sample.NoneFinal(sample.Ring(1, 1))); !sample.OnlyErrno(err, api.ErrLost) {
		t.Errorf("without words, the error is %v", err)
	}
	g := opened(t, noTwo())
	if _, err := g.Offer(3); !sample.OnlyErrno(err, api.ErrRange) {
		t.Errorf("without a letter, the error is %v", err)
	}
	for range 80 {
		offered(g, 0)
	}
	if _, err := g.Offer(0); !sample.OnlyErrno(err, api.ErrFull) {
		t.Errorf("behind 80 letters, the error is %v", err)
	}
}

// P5: long arguments and many offers are no obstacle.
func TestLong(t *testing.T) {
	for _, c := range sample.LongDfas() {
		if _, err := gate.New(c.Dfa); !sample.OnlyErrno(err, c.Want) {
			t.Errorf("%s: the error is %v, not %v alone", c.Name, err, c.Want)
		}
	}
	g := opened(t, oneWord())
	for i := range 1 << 20 {
		if passes, err := g.Offer(i % 2); passes != (i < 2) || err != nil {
			t.Fatalf("offer %d has %v, %v", i, passes, err)
		}
	}
	if !slices.Equal(g.Out(), []int{0, 1}) || !g.Shut() {
		t.Errorf("behind many offers, Out is %v and Shut %v", g.Out(), g.Shut())
	}
}
