// Package rules tests what the general rules say of the errors and limits that all layers share.
package rules

import (
	"errors"
	"testing"

	"stileward/api"
	"stileward/plain"
)

// P3: the numbers and names of the errors.
func TestErrnos(t *testing.T) {
	cases := []struct {
		e      api.Errno
		number int
		name   string
	}{
		{api.OK, 0, "OK"},
		{api.ErrRange, 1, "ErrRange"},
		{api.ErrSyntax, 2, "ErrSyntax"},
		{api.ErrShape, 3, "ErrShape"},
		{api.ErrFull, 4, "ErrFull"},
		{api.ErrNone, 5, "ErrNone"},
		{api.ErrClash, 6, "ErrClash"},
		{api.ErrSum, 7, "ErrSum"},
		{api.ErrLost, 8, "ErrLost"},
		{api.ErrLate, 9, "ErrLate"},
	}
	for _, c := range cases {
		if int(c.e) != c.number || c.e.Error() != c.name {
			t.Errorf("%s is number %d with the name %s", c.name, int(c.e), c.e.Error())
		}
	}
}

type wrapped struct{ inner error }

func (w wrapped) Error() string { return "wrapped" }
func (w wrapped) Unwrap() error { return w.inner }

// P3: an error is told by what it is or wraps.
func TestTold(t *testing.T) {
	cases := []struct {
		err  error
		want api.Errno
	}{
		{nil, api.OK},
		{api.ErrRange, api.ErrRange},
		{wrapped{api.ErrSum}, api.ErrSum},
		{wrapped{wrapped{api.ErrLate}}, api.ErrLate},
		{errors.New("another"), -1},
	}
	for _, c := range cases {
		if got := plain.Told(c.err); got != c.want {
			t.Errorf("Told(%v) = %v, want %v", c.err, got, c.want)
		}
	}
}

// P3: the constants of the stages that have landed.
func TestLimits(t *testing.T) {
	cases := []struct {
		name      string
		got, want int
	}{
		{"MaxList", api.MaxList, 200},
		{"MaxBody", api.MaxBody, 200},
		{"Base", api.Base, 257},
		{"Modulo", api.Modulo, 1000003},
		{"MaxLetters", api.MaxLetters, 6},
		{"MaxWord", api.MaxWord, 80},
		{"MaxStates", api.MaxStates, 40},
		{"MaxMoves", api.MaxMoves, 240},
		{"MaxNodes", api.MaxNodes, 40},
		{"MaxText", api.MaxText, 300},
		{"MaxPlaces", api.MaxPlaces, 40},
	}
	for _, c := range cases {
		if c.got != c.want {
			t.Errorf("%s is %d, want %d", c.name, c.got, c.want)
		}
	}
}

// P3: the constants of the verdicts.
func TestVerdicts(t *testing.T) {
	for want, got := range []int{api.Never, api.NotNow, api.Now, api.Forever} {
		if got != want {
			t.Errorf("verdict %d is %d", want, got)
		}
	}
}
