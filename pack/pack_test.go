package pack_test

import (
	"math"
	"slices"
	"strings"
	"testing"

	"stileward/api"
	"stileward/pack"
	"stileward/plain"
	"stileward/sample"
)

// numbers and their texts, with both ends of every length.
var numbers = []struct {
	n    int
	text string
}{
	{0, "\x00"},
	{1, "\x01"},
	{10, "\x0a"},
	{127, "\x7f"},
	{128, "\x80\x01"},
	{129, "\x81\x01"},
	{255, "\xff\x01"},
	{256, "\x80\x02"},
	{300, "\xac\x02"},
	{1<<14 - 1, "\xff\x7f"},
	{1 << 14, "\x80\x80\x01"},
	{1000003, "\xc3\x84\x3d"},
	{1<<21 - 1, "\xff\xff\x7f"},
	{1 << 21, "\x80\x80\x80\x01"},
	{1<<28 - 1, "\xff\xff\xff\x7f"},
	{1 << 28, "\x80\x80\x80\x80\x01"},
	{1<<35 - 1, "\xff\xff\xff\xff\x7f"},
	{1 << 35, "\x80\x80\x80\x80\x80\x01"},
	{1<<42 - 1, "\xff\xff\xff\xff\xff\x7f"},
	{1 << 42, "\x80\x80\x80\x80\x80\x80\x01"},
	{1<<49 - 1, "\xff\xff\xff\xff\xff\xff\x7f"},
	{1 << 49, "\x80\x80\x80\x80\x80\x80\x80\x01"},
	{1<<56 - 1, "\xff\xff\xff\xff\xff\xff\xff\x7f"},
	{1 << 56, "\x80\x80\x80\x80\x80\x80\x80\x80\x01"},
	{math.MaxInt - 1, "\xfe\xff\xff\xff\xff\xff\xff\xff\x7f"},
	{math.MaxInt, "\xff\xff\xff\xff\xff\xff\xff\xff\x7f"},
}

// 1.1: Num writes base 128, with as few digits as possible.
func TestNum(t *testing.T) {
	for _, c := range numbers {
		got, err := pack.Num(c.n)
		if got != c.text || err != nil {
			t.Errorf("Num(%d) = %q, %v, want %q", c.n, got, err, c.text)
		}
	}
}

// 1.1: Num refuses negative numbers.
func TestNumRange(t *testing.T) {
	for _, n := range []int{-1, -127, -128, -1 << 31, math.MinInt + 1, math.MinInt} {
		got, err := pack.Num(n)
		if got != "" || plain.Told(err) != api.ErrRange {
			t.Errorf("Num(%d) = %q, %v, want ErrRange", n, got, err)
		}
	}
}

// 1.1: ReadNum reads what Num writes, and ignores what follows.
func TestReadNum(t *testing.T) {
	tails := []string{"", "\x00", "\x01", "\x7f", "\x80", "\xff", strings.Repeat("\xff", 12), "text"}
	for _, c := range numbers {
		for _, tail := range tails {
			n, used, err := pack.ReadNum(c.text + tail)
			if n != c.n || used != len(c.text) || err != nil {
				t.Errorf("ReadNum(%q) = %d, %d, %v, want %d, %d", c.text+tail, n, used, err, c.n, len(c.text))
			}
		}
	}
}

// 1.1: the errors of ReadNum.
func TestReadNumErrors(t *testing.T) {
	cases := []struct {
		text string
		want api.Errno
	}{
		{"", api.ErrNone},
		{"\x80", api.ErrNone},
		{"\xff", api.ErrNone},
		{"\x80\x80", api.ErrNone},
		{strings.Repeat("\x80", 8), api.ErrNone},
		{strings.Repeat("\xff", 8), api.ErrNone},
		{strings.Repeat("\x80", 9), api.ErrSyntax},
		{strings.Repeat("\xff", 9), api.ErrSyntax},
		{strings.Repeat("\xff", 9) + "\x01", api.ErrSyntax},
		{strings.Repeat("\x80", 10), api.ErrSyntax},
		{"\x80\x00", api.ErrSyntax},
		{"\x81\x00", api.ErrSyntax},
		{"\xff\x00\x01", api.ErrSyntax},
		{"\x81\x80\x00", api.ErrSyntax},
		{strings.Repeat("\xff", 7) + "\x00", api.ErrSyntax},
		{strings.Repeat("\xff", 8) + "\x00", api.ErrSyntax},
	}
	for _, c := range cases {
		n, used, err := pack.ReadNum(c.text)
		if n != 0 || used != 0 || plain.Told(err) != c.want {
			t.Errorf("ReadNum(%q) = %d, %d, %v, want %v", c.text, n, used, err, c.want)
		}
	}
}

// readSlowly follows the words of 1.1: the digits are cut out first, and weighed behind that.
func readSlowly(s string) (int, int, api.Errno) {
	used := 1 + slices.IndexFunc([]byte(s), func(b byte) bool { return b < 128 })
	if used == 0 && len(s) < 9 {
		return 0, 0, api.ErrNone
	}
	if used == 0 || used > 9 || used > 1 && s[used-1] == 0 {
		return 0, 0, api.ErrSyntax
	}
	n := 0
	for i := used - 1; i >= 0; i-- {
		n = n*128 + int(s[i])%128
	}
	return n, used, api.OK
}

// 1.1: ReadNum of all short texts, and of long ones, does what the words say.
func TestReadNumAll(t *testing.T) {
	texts := sample.Texts(2, sample.Bytes())
	texts = append(texts, sample.Texts(5, "\x00\x01\x7f\x80\x81\xff")...)
	texts = append(texts, sample.Texts(11, "\x00\xff")...)
	for _, s := range texts {
		n, used, err := pack.ReadNum(s)
		wantN, wantUsed, want := readSlowly(s)
		if n != wantN || used != wantUsed || plain.Told(err) != want {
			t.Fatalf("ReadNum(%q) = %d, %d, %v, want %d, %d, %v", s, n, used, err, wantN, wantUsed, want)
		}
		if err != nil {
			continue
		}
		if again, err := pack.Num(n); again != s[:used] || err != nil {
			t.Fatalf("Num(%d) = %q, %v, want %q", n, again, err, s[:used])
		}
	}
}

// filled returns n times the same number.
func filled(n, value int) []int { return slices.Repeat([]int{value}, n) }

var lists = []struct {
	l    []int
	text string
}{
	{nil, "\x00"},
	{[]int{}, "\x00"},
	{[]int{0}, "\x01\x00"},
	{[]int{127, 128}, "\x02\x7f\x80\x01"},
	{[]int{3, 0, 3, 300}, "\x04\x03\x00\x03\xac\x02"},
	{[]int{math.MaxInt}, "\x01\xff\xff\xff\xff\xff\xff\xff\xff\x7f"},
	{filled(127, 1), "\x7f" + strings.Repeat("\x01", 127)},
	{filled(128, 0), "\x80\x01" + strings.Repeat("\x00", 128)},
	{filled(199, 5), "\xc7\x01" + strings.Repeat("\x05", 199)},
	{filled(200, 128), "\xc8\x01" + strings.Repeat("\x80\x01", 200)},
}

// 1.2: List writes the number of elements, and then the elements.
func TestList(t *testing.T) {
	for _, c := range lists {
		got, err := pack.List(c.l)
		if got != c.text || err != nil {
			t.Errorf("List(%v) = %q, %v, want %q", c.l, got, err, c.text)
		}
	}
}

// 1.2: the errors of List; that of the length goes first.
func TestListErrors(t *testing.T) {
	cases := []struct {
		l    []int
		want api.Errno
	}{
		{[]int{-1}, api.ErrRange},
		{[]int{math.MinInt}, api.ErrRange},
		{[]int{-1, 0, 0}, api.ErrRange},
		{[]int{0, 5, -1}, api.ErrRange},
		{append(filled(199, 0), -1), api.ErrRange},
		{filled(200, -1), api.ErrRange},
		{filled(201, 0), api.ErrFull},
		{filled(201, -1), api.ErrFull},
		{filled(1000, 7), api.ErrFull},
	}
	for _, c := range cases {
		got, err := pack.List(c.l)
		if got != "" || plain.Told(err) != c.want {
			t.Errorf("List(%v) = %q, %v, want %v", c.l, got, err, c.want)
		}
	}
}

// 1.2: ReadList reads what List writes, and ignores what follows.
func TestReadList(t *testing.T) {
	for _, c := range lists {
		for _, tail := range []string{"", "\x00", "\xff", strings.Repeat("\x80", 12), "text"} {
			l, used, err := pack.ReadList(c.text + tail)
			if !slices.Equal(l, c.l) || used != len(c.text) || err != nil {
				t.Errorf("ReadList(%q) = %v, %d, %v, want %v, %d", c.text+tail, l, used, err, c.l, len(c.text))
			}
		}
	}
}

// 1.2: the errors of ReadList: the number of elements, then the first bad element.
func TestReadListErrors(t *testing.T) {
	cases := []struct {
		text string
		want api.Errno
	}{
		{"", api.ErrNone},
		{"\x80", api.ErrNone},
		{strings.Repeat("\xff", 8), api.ErrNone},
		{strings.Repeat("\xff", 9), api.ErrSyntax},
		{"\x80\x00", api.ErrSyntax},
		{"\xc9\x01" + strings.Repeat("\x00", 201), api.ErrFull},
		{"\xc9\x01", api.ErrFull},
		{"\xc9\x01\x80\x00", api.ErrFull},
		{strings.Repeat("\xff", 8) + "\x7f", api.ErrFull},
		{"\xc8\x01", api.ErrNone},
		{"\xc8\x01" + strings.Repeat("\x00", 199), api.ErrNone},
		{"\x01", api.ErrNone},
		{"\x01\xff", api.ErrNone},
		{"\x02\x05", api.ErrNone},
		{"\x02\x05" + strings.Repeat("\x80", 8), api.ErrNone},
		{"\x02\x05" + strings.Repeat("\x80", 9), api.ErrSyntax},
		{"\x01\x80\x00", api.ErrSyntax},
		{"\x02\x80\x00", api.ErrSyntax},
		{"\x03\x01\x81\x00", api.ErrSyntax},
		{"\x03\x01\x81\x00\x80", api.ErrSyntax},
	}
	for _, c := range cases {
		l, used, err := pack.ReadList(c.text)
		if len(l) != 0 || used != 0 || plain.Told(err) != c.want {
			t.Errorf("ReadList(%q) = %v, %d, %v, want %v", c.text, l, used, err, c.want)
		}
	}
}

// 1.2: ReadList is ReadNum of the number of elements, and of each element in order.
func TestReadListAll(t *testing.T) {
	for _, s := range sample.Texts(6, "\x00\x01\x02\x80\xff") {
		got, used, err := pack.ReadList(s)
		want, wantUsed, wantErr := readListSlowly(s)
		if !slices.Equal(got, want) || used != wantUsed || plain.Told(err) != wantErr {
			t.Fatalf("ReadList(%q) = %v, %d, %v, want %v, %d, %v", s, got, used, err, want, wantUsed, wantErr)
		}
	}
}

func readListSlowly(s string) ([]int, int, api.Errno) {
	count, used, wrong := readSlowly(s)
	if wrong == api.OK && count > 200 {
		wrong = api.ErrFull
	}
	var l []int
	for wrong == api.OK && len(l) < count {
		var n, size int
		n, size, wrong = readSlowly(s[used:])
		l = append(l, n)
		used += size
	}
	if wrong != api.OK {
		return nil, 0, wrong
	}
	return l, used, api.OK
}
