package pack_test

import (
	"errors"
	"math"
	"slices"
	"strings"
	"testing"

	"stileward/api"
	"stileward/pack"
	"stileward/sample"
)

// P1: whatever the text, both readers return normally, and within it; with an
// error they return nothing else. Without one, writing leads back to the text.
func FuzzRead(f *testing.F) {
	for _, c := range numbers {
		f.Add(c.text)
	}
	for _, c := range lists {
		f.Add(c.text)
	}
	f.Add(strings.Repeat("\xff", 20))
	f.Add("\x80\x00")
	f.Fuzz(func(t *testing.T, s string) {
		n, used, err := pack.ReadNum(s)
		text, wrong := pack.Num(n)
		checkRead(t, s, text, wrong, used, err)
		if err != nil && n != 0 {
			t.Errorf("ReadNum(%q) = %d with %v", s, n, err)
		}

		l, used, err := pack.ReadList(s)
		text, wrong = pack.List(l)
		checkRead(t, s, text, wrong, used, err)
		if err != nil && len(l) != 0 {
			t.Errorf("ReadList(%q) = %v with %v", s, l, err)
		}
	})
}

func checkRead(t *testing.T, s, text string, wrong error, used int, err error) {
	if err != nil {
		if used != 0 {
			t.Errorf("read %d bytes of %q with %v", used, s, err)
		}
		return
	}
	if used < 1 || used > len(s) {
		t.Fatalf("read %d bytes of %q", used, s)
	}
	if wrong != nil || text != s[:used] {
		t.Errorf("wrote %q, %v for %q", text, wrong, s[:used])
	}
}

// P1: whatever the numbers, both writers return normally.
func TestWritersReturn(t *testing.T) {
	for _, n := range []int{math.MinInt, -1, 0, 1, math.MaxInt} {
		text, err := pack.Num(n)
		if (err == nil) != (n >= 0) || (err == nil) != (text != "") {
			t.Errorf("Num(%d) = %q, %v", n, text, err)
		}
		text, err = pack.List([]int{n, n})
		if (err == nil) != (n >= 0) || (err == nil) != (text != "") {
			t.Errorf("List of %d twice = %q, %v", n, text, err)
		}
	}
}

// P2, P4: List leaves its argument and what is behind it as they are, and reads nothing there.
func TestListLeavesArgument(t *testing.T) {
	for _, length := range []int{0, 1, 3, 200, 201} {
		memory := filled(300, 9)
		for i := range memory[length:] {
			memory[length+i] = -7
		}
		before := slices.Clone(memory)
		wide, wideErr := pack.List(memory[:length])
		narrow, narrowErr := pack.List(slices.Clone(memory[:length]))
		if !slices.Equal(memory, before) {
			t.Errorf("List of %d elements changed memory: %v", length, memory)
		}
		if wide != narrow || !errors.Is(wideErr, narrowErr) {
			t.Errorf("List of %d elements = %q, %v with more behind, %q, %v without", length, wide, wideErr, narrow, narrowErr)
		}
	}
}

// P2: what was written does not change when the argument does later.
func TestListKeepsNothing(t *testing.T) {
	l := []int{1, 2, 3}
	text, _ := pack.List(l)
	l[0], l[1], l[2] = 4, 5, 6
	if text != "\x03\x01\x02\x03" {
		t.Errorf("the text became %q", text)
	}
}

// P2: two results share no memory, not even behind their ends, and depend on no earlier call.
func TestReadListShares(t *testing.T) {
	text := "\x03\x01\x02\x03"
	first, _, _ := pack.ReadList(text)
	first = first[:cap(first)]
	for i := range first {
		first[i] = -1
	}
	second, used, err := pack.ReadList(text)
	if !slices.Equal(second, []int{1, 2, 3}) || used != 4 || err != nil {
		t.Errorf("the second result is %v, %d, %v", second, used, err)
	}
	second[0] = 8
	if first[0] != -1 {
		t.Error("the results share memory")
	}
}

// P3: each error is, or wraps, the Errno that it stands for, and no other one.
func TestErrorsAreErrnos(t *testing.T) {
	_, negative := pack.Num(-1)
	_, _, short := pack.ReadNum("")
	_, _, syntax := pack.ReadNum("\x80\x00")
	_, full := pack.List(filled(201, 0))
	_, _, tooMany := pack.ReadList("\xc9\x01")
	cases := []struct {
		err  error
		want api.Errno
	}{
		{negative, api.ErrRange},
		{short, api.ErrNone},
		{syntax, api.ErrSyntax},
		{full, api.ErrFull},
		{tooMany, api.ErrFull},
	}
	for _, c := range cases {
		if !sample.OnlyErrno(c.err, c.want) {
			t.Errorf("%v is not the Errno %v alone", c.err, c.want)
		}
	}
}

// P4: nil and the empty slice are one argument, and one result.
func TestNilIsEmpty(t *testing.T) {
	ofNil, err1 := pack.List(nil)
	ofEmpty, err2 := pack.List([]int{})
	if ofNil != ofEmpty || err1 != nil || err2 != nil {
		t.Errorf("List: %q, %v of nil, and %q, %v of no element", ofNil, err1, ofEmpty, err2)
	}
	l, used, err := pack.ReadList(ofNil)
	if len(l) != 0 || used != 1 || err != nil {
		t.Errorf("ReadList(%q) = %v, %d, %v", ofNil, l, used, err)
	}
}

// P5: long arguments are no obstacle.
func TestLong(t *testing.T) {
	long := strings.Repeat("\x01", 1<<24)
	if n, used, err := pack.ReadNum(long); n != 1 || used != 1 || err != nil {
		t.Errorf("ReadNum = %d, %d, %v", n, used, err)
	}
	if l, used, err := pack.ReadList(long); !slices.Equal(l, []int{1}) || used != 2 || err != nil {
		t.Errorf("ReadList = %v, %d, %v", l, used, err)
	}
	if text, err := pack.List(make([]int, 1<<24)); text != "" || !errors.Is(err, api.ErrFull) {
		t.Errorf("List = %q, %v", text, err)
	}
}
