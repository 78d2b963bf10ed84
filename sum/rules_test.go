package sum_test

import (
	"errors"
	"math"
	"strings"
	"testing"

	"stileward/api"
	"stileward/plain"
	"stileward/sum"
)

// fits tells whether a number lies within bounds.
func fits(n, least, most int) bool { return n >= least && n <= most }

// checkCall demands a checksum without an error where the arguments are right, and else 0 with ErrRange.
func checkCall(t *testing.T, right bool, got int, err error, args ...int) {
	t.Helper()
	want := api.ErrRange
	if right {
		want = api.OK
	}
	if plain.Told(err) != want || !fits(got, 0, top) || !right && got != 0 {
		t.Fatalf("%v with %v = %d, %v", args, want, got, err)
	}
}

// P1, P3: whatever the numbers, Join and Roll return normally, and with an error they return 0.
func TestReturns(t *testing.T) {
	ends := []int{
		math.MinInt, math.MinInt + 1, -1 << 32, -1 << 31, -257, -1, 0, 1, 255, 256,
		top, top + 1, longest, longest + 1, 1 << 32, math.MaxInt - 1, math.MaxInt,
	}
	for _, a := range ends {
		for _, b := range ends {
			for _, c := range ends {
				got, err := sum.Join(a, b, c)
				checkCall(t, fits(a, 0, top) && fits(b, 0, top) && fits(c, 0, longest), got, err, a, b, c)
				for _, n := range ends {
					got, err := sum.Roll(a, b, c, n)
					right := fits(a, 0, top) && fits(b, 0, 255) && fits(c, 0, 255) && fits(n, 1, longest)
					checkCall(t, right, got, err, a, b, c, n)
				}
			}
		}
	}
}

// P1: whatever the strings, Of returns a checksum, and Join and Roll agree with it.
func FuzzSums(f *testing.F) {
	f.Add("", "")
	f.Add("\x00", "\xff")
	f.Add("stileward", "\xc3\xa9")
	f.Fuzz(func(t *testing.T, first, second string) {
		both := first + second
		want := sum.Of(both)
		if !fits(want, 0, top) {
			t.Fatalf("Of(%q) = %d", both, want)
		}
		got, err := sum.Join(sum.Of(first), sum.Of(second), len(second))
		if got != want || err != nil {
			t.Errorf("Join for %q and %q = %d, %v, want %d", first, second, got, err, want)
		}
		if n := len(both) - 1; n > 0 {
			got, err := sum.Roll(sum.Of(both[:n]), int(both[0]), int(both[n]), n)
			if want := sum.Of(both[1:]); got != want || err != nil {
				t.Errorf("Roll for %q = %d, %v, want %d", both, got, err, want)
			}
		}
	})
}

// P2: results depend on no earlier call, be it a good or a bad one.
func TestRepeats(t *testing.T) {
	for range 3 {
		if got := sum.Of("abc"); got != 498327 {
			t.Errorf("Of = %d", got)
		}
		if got, err := sum.Join(5, 7, 0); got != 12 || err != nil {
			t.Errorf("Join = %d, %v", got, err)
		}
		if got, err := sum.Roll(98, 'a', 'b', 1); got != 99 || err != nil {
			t.Errorf("Roll = %d, %v", got, err)
		}
		if got, err := sum.Join(-1, 7, 3); got != 0 || !errors.Is(err, api.ErrRange) {
			t.Errorf("Join = %d, %v", got, err)
		}
		if got, err := sum.Roll(98, 'a', 'b', 0); got != 0 || !errors.Is(err, api.ErrRange) {
			t.Errorf("Roll = %d, %v", got, err)
		}
	}
}

// P5: a long string is no obstacle.
func TestLong(t *testing.T) {
	const half = 1 << 23
	piece := sum.Of(strings.Repeat("a", half))
	want, err := sum.Join(piece, piece, half)
	if got := sum.Of(strings.Repeat("a", 2*half)); got != want || err != nil {
		t.Errorf("Of = %d, Join = %d, %v", got, want, err)
	}
}
