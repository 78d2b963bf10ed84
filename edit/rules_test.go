package edit_test

import (
	"math"
	"slices"
	"testing"

	"stileward/api"
	"stileward/edit"
	"stileward/sample"
)

// P1: whatever the arguments, all functions return normally and do what the words say.
func FuzzEdit(f *testing.F) {
	f.Add(1, 0, "\x00", "\x01", "")
	f.Add(3, 0, "\x00\x00\x01\x01\x01\x01", "\x01\x00", "\x00\x01\x02\x01")
	f.Add(2, 4, "\x04\x01\x01\x01\x01\x04\x00\x02\x02\x00\x04\x03", "\x00\x00\x00\x00\x01\x01", "\x00\x01\xff\x01\x02\x00\x01")
	f.Add(6, 1, "\x00\x01\x00\x01\x00\x01\x01\x01\x01\x00\x00\x00", "\x01\x00", "\x05")
	f.Add(0, 0, "", "", "")
	f.Add(-1, -1, "\xff", "\x00", "\xff")
	f.Add(7, math.MaxInt, "\x00\x00\x00\x00\x00\x00\x00", "\x01", "\x06")
	f.Fuzz(func(t *testing.T, letters, start int, rows, finals, text string) {
		check(t, sample.Dfa(letters, start, rows, finals), sample.Word(text))
	})
}

// P1: New returns nil together with an error, and no method panics then.
func TestNoEditor(t *testing.T) {
	e, err := edit.New(api.Dfa{})
	if e != nil || err == nil {
		t.Fatalf("New of nothing = %v, %v", e, err)
	}
	for _, a := range []int{0, 1, -1, math.MaxInt} {
		if got := offered(e, a); !equalSteps(got, step{wrong: api.ErrRange}) {
			t.Errorf("the offer %d has %v", a, got)
		}
	}
}

// P2, P4: New leaves its argument and what is behind it as it is, and reads nothing there.
func TestArgumentsAreLeft(t *testing.T) {
	for _, c := range sample.DfaChecks() {
		d, intact := sample.RoomyDfa(c.Dfa)
		check(t, d, []int{0, 0, -1, 0})
		if !intact() {
			t.Errorf("%s: the argument, or memory behind it, is changed", c.Name)
		}
	}
}

// 17.1, P2: later changes of the automaton have no effect on the editor, nor has the editor any on it.
func TestLaterChanges(t *testing.T) {
	row := []int{1, 2}
	shared := api.Dfa{Letters: 2, Next: [][]int{row, row, {0, 1}}, Final: []bool{true, false, true}}
	for _, given := range []api.Dfa{behindZero(), pairs(), noTwo(), shared, every(2)} {
		offers := []int{0, 1, 1, 0, 0, 1}
		offers = offers[:min(len(offers), 3*given.Letters)]
		for i := range offers {
			offers[i] %= given.Letters
		}
		want := slowly(given, offers)
		for before := range len(offers) {
			d, intact := sample.RoomyDfa(given)
			e := opened(t, d)
			checkSteps(t, given, e, offers[:before], want[:before])
			if !intact() {
				t.Errorf("%v, or memory behind it, is changed", given)
			}
			spoilt := sample.SpoilDfa(d, -100)
			checkSteps(t, given, e, offers[before:], want[before:])
			if !spoilt() {
				t.Errorf("%v is changed by its editor", given)
			}
		}
	}
}

// P2: words that the methods return share no memory with the editor or with each other, not
// even behind their ends.
func TestWordsAreNew(t *testing.T) {
	never := sample.WithFinals(sample.Ring(1, 1), "+-")
	for _, d := range []api.Dfa{every(1), every(3), every(7), never} {
		e := opened(t, d)
		offers := sample.Repeated(80, 0)
		var kept [][]int
		for i, want := range slowly(d, offers) {
			got := offered(e, offers[i])
			if !equalSteps(got, want) {
				t.Fatalf("of %v, behind %d offers, %v comes of one more, want %v", d, i, got, want)
			}
			kept = append(kept, got.gone, got.out, got.held, e.Out(), e.Held())
			for number, w := range kept {
				sample.Fill(w, -1-number)
			}
			for number, w := range kept {
				for _, found := range w[:cap(w)] {
					if found != -1-number {
						t.Fatalf("of %v, behind %d offers, two words share memory", d, i+1)
					}
				}
			}
			if !slices.Equal(e.Out(), want.out) || !slices.Equal(e.Held(), want.held) {
				t.Fatalf("of %v, behind %d offers, the editor shares memory: Out is %v and Held %v", d, i+1, e.Out(), e.Held())
			}
		}
	}
}

// P2: a word that was returned stays as it is, whatever is offered later.
func TestWordsAreKept(t *testing.T) {
	e := opened(t, every(3))
	var kept, wants []step
	for i, want := range slowly(every(3), sample.Repeated(90, 0)) {
		kept, wants = append(kept, offered(e, 0)), append(wants, want)
		if !slices.EqualFunc(kept, wants, equalSteps) {
			t.Fatalf("behind offer %d, the steps are %v, want %v", i, kept, wants)
		}
	}
}

// P2: results depend on the earlier calls on the same editor alone; Out and Held change nothing.
func TestRepeats(t *testing.T) {
	e := opened(t, pairs())
	offers := slices.Repeat([]int{0, 1, 1, 0}, 20)
	wants := slowly(pairs(), offers)
	last := step{}
	for i, c := range sample.DfaChecks() {
		check(t, c.Dfa, []int{0, 0, 0})
		for range 3 {
			if !slices.Equal(e.Out(), last.out) || !slices.Equal(e.Held(), last.held) {
				t.Fatalf("behind %d offers, Out is %v and Held %v, want %v", i, e.Out(), e.Held(), last)
			}
		}
		if i == len(offers) {
			break
		}
		checkSteps(t, pairs(), e, offers[i:i+1], wants[i:i+1])
		last = wants[i]
	}
}

// P3: each error is an Errno.
func TestErrorsAreErrnos(t *testing.T) {
	for _, c := range sample.DfaChecks() {
		if c.Want == api.OK {
			continue
		}
		if _, err := edit.New(c.Dfa); !sample.OnlyErrno(err, c.Want) {
			t.Errorf("%s: the error is %v, not %v alone", c.Name, err, c.Want)
		}
	}
	if _, err := edit.New(sample.Ring(1, 1)); !sample.OnlyErrno(err, api.ErrLost) {
		t.Errorf("without the empty word, the error is %v", err)
	}
	e := opened(t, behindZero())
	if _, err := e.Offer(3); !sample.OnlyErrno(err, api.ErrRange) {
		t.Errorf("without a letter, the error is %v", err)
	}
	for range 80 {
		offered(e, 0)
	}
	if _, err := e.Offer(1); !sample.OnlyErrno(err, api.ErrFull) {
		t.Errorf("behind 80 letters, the error is %v", err)
	}
}

// P5: long arguments and many offers are no obstacle.
func TestLong(t *testing.T) {
	for _, c := range sample.LongDfas() {
		if _, err := edit.New(c.Dfa); !sample.OnlyErrno(err, c.Want) {
			t.Errorf("%s: the error is %v, not %v alone", c.Name, err, c.Want)
		}
	}
	e := opened(t, every(3))
	for i := range 1 << 20 {
		gone, err := e.Offer(0)
		if len(gone) > 0 != (i < 80 && i%3 == 2) || (err == nil) != (i < 80) {
			t.Fatalf("offer %d has %v, %v", i, gone, err)
		}
	}
	if !slices.Equal(e.Out(), sample.Repeated(78, 0)) || !slices.Equal(e.Held(), []int{0, 0}) {
		t.Errorf("behind many offers, Out is %v and Held %v", e.Out(), e.Held())
	}
}
