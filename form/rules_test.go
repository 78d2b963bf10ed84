package form_test

import (
	"math"
	"slices"
	"strings"
	"testing"
	"unsafe"

	"stileward/api"
	"stileward/form"
	"stileward/sample"
)

// P1: whatever the arguments, all functions return normally and do what the words say.
func FuzzForm(f *testing.F) {
	f.Add(1, "\x00\x00\x00", "t")
	f.Add(3, "\x02\x05\x00\x06\x00\x00\x09\x01\x00", "t|f&[02]U!XW[]R([1])")
	f.Add(2, "\x02\x03\x00\x04\x00\x00\x08\x01\x01\x05\x02\x02\x09\x03\x03\x04\x04\x04", "((t&f)|(tU(fRt)))")
	f.Add(6, "\x02\x3f\x00\x03\x00\x00", " [ 0 1 2 3 4 5 ] & (((t)))")
	f.Add(0, "", "")
	f.Add(-1, "\xff\xff\xff", "[00]")
	f.Add(7, "\x0a\x00\x00", "[6]")
	f.Add(1, "\x03\x00\x00\x02\x02\x00", "(t")
	f.Add(math.MaxInt, "\x02\x01\x01", "t)")
	f.Add(math.MinInt, "\x00\x01\x00", "\x00")
	f.Fuzz(func(t *testing.T, letters int, nodes, text string) {
		checkAll(t, letters, sample.Form(nodes), text)
		if read, err := form.Read(letters, text); err == nil {
			checkAll(t, letters, read, text)
			// Each node is used once, and so one behind another is a formula of them both.
			checkAll(t, letters, append(read, sample.Node(3, len(read)-1, 0)), "!"+text)
		}
	})
}

// checkAll demands of all functions what the words say.
func checkAll(t *testing.T, letters int, f []api.Node, text string) {
	t.Helper()
	checkCheck(t, letters, f)
	checkWrite(t, letters, f)
	checkRead(t, letters, text)
}

// P2, P4: all functions leave their arguments and what is behind them as they are, and read nothing there.
func TestArgumentsAreLeft(t *testing.T) {
	for i, c := range sample.FormChecks() {
		f, intact := sample.RoomyForm(c.Form)
		checkAll(t, c.Letters, f, faults[i%len(faults)])
		if !intact() {
			t.Errorf("%s: the argument, or memory behind it, is changed", c.Name)
		}
	}
}

// P2: results of Read share no memory with each other, not even behind their ends.
func TestReadIsNew(t *testing.T) {
	for _, c := range sames {
		first, err := form.Read(3, c.loose)
		want := slices.Clone(first)
		intact := sample.SpoilForm(first, -100)
		again, wrong := form.Read(3, c.loose)
		if !slices.Equal(again, want) || err != nil || wrong != nil {
			t.Errorf("Read(3, %q) = %v, %v, and then %v, %v", c.loose, want, err, again, wrong)
		}
		intactAgain := sample.SpoilForm(again, -101)
		if !intact() || !intactAgain() {
			t.Errorf("results of Read(3, %q) share memory", c.loose)
		}
	}
}

// P2: a text does not change when the formula does later, and is no part of another text.
func TestWriteIsNew(t *testing.T) {
	for _, c := range sames {
		f, err := form.Read(3, c.text)
		first, wrong := form.Write(3, f)
		again, wrongAgain := form.Write(3, f)
		sample.SpoilForm(f, -100)
		if first != c.text || again != c.text || err != nil || wrong != nil || wrongAgain != nil {
			t.Errorf("%q is written as %q, and then %q, %v, %v, %v", c.text, first, again, err, wrong, wrongAgain)
		}
		if unsafe.StringData(first) == unsafe.StringData(again) {
			t.Errorf("two texts %q share memory", c.text)
		}
	}
}

// P2: results depend on no earlier call, be it a good or a bad one.
func TestRepeats(t *testing.T) {
	for range 3 {
		for _, c := range sample.FormChecks() {
			checkAll(t, c.Letters, c.Form, "[0]U(")
			checkAll(t, 2, sample.Stacked(40, sample.Node(2, 3, 0), 8), "[0]U[1]")
			checkAll(t, 2, sample.Stacked(4, sample.Node(2, 3, 0), 8), strings.Repeat("!", 40)+"t")
		}
	}
}

// P3: each error is, or wraps, the Errno that it stands for, and no other one.
func TestErrorsAreErrnos(t *testing.T) {
	for _, c := range sample.FormChecks() {
		if c.Want == api.OK {
			continue
		}
		_, wrong := form.Write(c.Letters, c.Form)
		if err := form.Check(c.Letters, c.Form); !sample.OnlyErrno(err, c.Want) || !sample.OnlyErrno(wrong, c.Want) {
			t.Errorf("%s: Check = %v, Write = %v, not %v alone", c.Name, err, wrong, c.Want)
		}
	}
	if _, err := form.Write(2, sample.Stacked(40, sample.Node(2, 3, 0), 4)); !sample.OnlyErrno(err, api.ErrFull) {
		t.Errorf("Write = %v, not ErrFull alone", err)
	}
	cases := []struct {
		letters int
		text    string
		want    api.Errno
	}{
		{0, "t", api.ErrRange},
		{1, strings.Repeat(" ", 301), api.ErrFull},
		{1, "", api.ErrSyntax},
		{1, "t)", api.ErrSyntax},
		{1, strings.Repeat("!", 40) + "t", api.ErrFull},
	}
	for _, c := range cases {
		if _, err := form.Read(c.letters, c.text); !sample.OnlyErrno(err, c.want) {
			t.Errorf("Read(%d, %q) = %v, not %v alone", c.letters, c.text, err, c.want)
		}
	}
}

// P4: nil and the empty list are one argument.
func TestNilIsEmpty(t *testing.T) {
	for _, f := range [][]api.Node{nil, {}} {
		checkAll(t, 1, f, "")
		checkAll(t, 0, f, "")
	}
}

// P5: long arguments are no obstacle.
func TestLong(t *testing.T) {
	for _, c := range sample.LongForms() {
		_, wrong := form.Write(c.Letters, c.Form)
		if err := form.Check(c.Letters, c.Form); !sample.OnlyErrno(err, c.Want) || !sample.OnlyErrno(wrong, c.Want) {
			t.Errorf("%s: Check = %v, Write = %v, want %v", c.Name, err, wrong, c.Want)
		}
	}
	for _, text := range []string{strings.Repeat("(", 1<<24), strings.Repeat(" ", 1<<24), strings.Repeat("!", 1<<24) + "t"} {
		if got, err := form.Read(1, text); len(got) != 0 || !sample.OnlyErrno(err, api.ErrFull) {
			t.Errorf("Read of %d bytes = %v, %v", len(text), got, err)
		}
	}
}
