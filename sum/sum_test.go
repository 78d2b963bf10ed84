package sum_test

import (
	"math"
	"math/big"
	"strings"
	"testing"

	"stileward/api"
	"stileward/plain"
	"stileward/sample"
	"stileward/sum"
)

const (
	top     = 1000003 - 1 // the greatest checksum
	longest = 1<<31 - 1   // the greatest number of bytes
	// period is the least power of Base that is 1 again.
	period = 166667
)

// ofSlowly adds up the bytes, each times its power of 257, and divides once at the end.
func ofSlowly(s string) int {
	total := new(big.Int)
	for i := range len(s) {
		weight := new(big.Int).Exp(big.NewInt(257), big.NewInt(int64(len(s)-1-i)), nil)
		total.Add(total, weight.Mul(weight, big.NewInt(int64(s[i])+1)))
	}
	return int(total.Mod(total, big.NewInt(1000003)).Int64())
}

// power returns 257 to the power n, modulo 1000003.
func power(n int) int {
	return int(new(big.Int).Exp(big.NewInt(257), big.NewInt(int64(n)), big.NewInt(1000003)).Int64())
}

// 2.1: Of adds each byte plus 1, times Base, modulo Modulo.
func TestOf(t *testing.T) {
	cases := []struct {
		s    string
		want int
	}{
		{"", 0},
		{"\x00", 1},
		{"\xff", 256},
		{"\x00\x00", 258},
		{"a", 98},
		{"ab", 25285},
		{"ba", 25541},
		{"\x00a", 355},
		{"a\x00", 25187},
		{"abc", 498327},
		{"\xff\xff", 66048},
		{"\xff\xff\xff", 974544},
		{"stileward", 569521},
		{"\xc3\xa9", 50542},
		{sample.Bytes(), 295153},
	}
	for _, c := range cases {
		if got := sum.Of(c.s); got != c.want {
			t.Errorf("Of(%q) = %d, want %d", c.s, got, c.want)
		}
	}
}

// 2.1: Of every string of one or two bytes, and of longer ones, is what the words say.
func TestOfAll(t *testing.T) {
	all := append(sample.Texts(2, sample.Bytes()), sample.Texts(5, "\x00\x01a\x80\xff")...)
	for n := range 600 {
		all = append(all, strings.Repeat("\xff", n))
	}
	for _, s := range all {
		if got, want := sum.Of(s), ofSlowly(s); got != want {
			t.Fatalf("Of(%q) = %d, want %d", s, got, want)
		}
	}
}

// 2.1: Join is a times Base to the power n, plus b, modulo Modulo, whether or not such strings exist.
func TestJoin(t *testing.T) {
	cases := []struct{ a, b, n, want int }{
		{0, 0, 0, 0},
		{0, 5, 0, 5},
		{5, 0, 0, 5},
		{5, 7, 0, 12},
		{1, 0, 1, 257},
		{1, 0, 2, 66049},
		{1, 0, 3, 974545},
		{0, top, 12, top},
		{1, top, 0, 0},
		{top, top, 0, 1000001},
		{top, 0, 1, 999746},
		{1, 0, period - 1, 62257},
		{1, 0, period, 1},
		{123456, 654321, period, 777777},
		{1, 0, top, 1},
		{1, 0, longest, 442232},
		{top, top, longest, 557770},
	}
	for _, c := range cases {
		got, err := sum.Join(c.a, c.b, c.n)
		if got != c.want || err != nil {
			t.Errorf("Join(%d, %d, %d) = %d, %v, want %d", c.a, c.b, c.n, got, err, c.want)
		}
	}
}

// lengths returns small and large numbers of bytes, with both sides of every power of 2.
func lengths() []int {
	var all []int
	for n := range 300 {
		all = append(all, n)
	}
	for n := 512; n <= longest; n *= 2 {
		all = append(all, n-1, n, n+1)
	}
	return append(all, top-1, top, top+1, longest-1, longest)
}

// 2.1: Join takes every number of bytes.
func TestJoinLengths(t *testing.T) {
	for _, n := range lengths() {
		for _, a := range []int{0, 1, 2, 500001, top} {
			for _, b := range []int{0, 1, 777777, top} {
				got, err := sum.Join(a, b, n)
				if want := (a*power(n) + b) % 1000003; got != want || err != nil {
					t.Fatalf("Join(%d, %d, %d) = %d, %v, want %d", a, b, n, got, err, want)
				}
			}
		}
	}
}

// 2.1: Join of two checksums is the checksum of the two strings in a row.
func TestJoinIsConcatenation(t *testing.T) {
	pieces := append(sample.Texts(3, "\x00a\xff"), sample.Bytes(), strings.Repeat("\xff", 1000))
	for _, first := range pieces {
		for _, second := range pieces {
			got, err := sum.Join(sum.Of(first), sum.Of(second), len(second))
			if want := sum.Of(first + second); got != want || err != nil {
				t.Fatalf("Join for %q and %q = %d, %v, want %d", first, second, got, err, want)
			}
		}
	}
}

// 2.1: Join refuses what is no checksum and no number of bytes.
func TestJoinRange(t *testing.T) {
	cases := []struct{ a, b, n int }{
		{-1, 0, 0},
		{math.MinInt, 0, 0},
		{top + 1, 0, 0},
		{math.MaxInt, 0, 0},
		{0, -1, 0},
		{0, math.MinInt, 0},
		{0, top + 1, 0},
		{0, math.MaxInt, 0},
		{5, 7, -1},
		{5, 7, math.MinInt},
		{5, 7, longest + 1},
		{5, 7, 1 << 32},
		{5, 7, math.MaxInt},
		{-1, top + 1, -1},
	}
	for _, c := range cases {
		got, err := sum.Join(c.a, c.b, c.n)
		if got != 0 || plain.Told(err) != api.ErrRange {
			t.Errorf("Join(%d, %d, %d) = %d, %v, want ErrRange", c.a, c.b, c.n, got, err)
		}
	}
}

// 2.2: Roll takes the first byte out and the last one in, whether or not there is such a window.
func TestRoll(t *testing.T) {
	cases := []struct{ sum, out, in, n, want int }{
		{98, 'a', 'a', 1, 98},
		{98, 'a', 'b', 1, 99},
		{25285, 'a', 'c', 2, 25543},
		{0, 0, 0, 1, 999747},
		{0, 255, 0, 1, 934212},
		{top, 255, 255, 1, 934210},
		{0, 0, 0, 2, 933955},
		{0, 255, 255, longest, 789206},
		{top, 0, 0, longest, 557515},
		{top, 255, 255, longest, 788949},
	}
	for _, c := range cases {
		got, err := sum.Roll(c.sum, c.out, c.in, c.n)
		if got != c.want || err != nil {
			t.Errorf("Roll(%d, %d, %d, %d) = %d, %v, want %d", c.sum, c.out, c.in, c.n, got, err, c.want)
		}
	}
}

// 2.2: Roll takes every number of bytes but 0, and every byte; what it returns is never negative.
func TestRollLengths(t *testing.T) {
	for _, n := range lengths()[1:] {
		for _, old := range []int{0, 1, 500001, top} {
			for _, out := range []int{0, 1, 128, 255} {
				in := (out + n) % 256
				got, err := sum.Roll(old, out, in, n)
				want := 257*(old-(out+1)*power(n-1)%1000003) + in + 1
				want = (want%1000003 + 1000003) % 1000003
				if got != want || err != nil {
					t.Fatalf("Roll(%d, %d, %d, %d) = %d, %v, want %d", old, out, in, n, got, err, want)
				}
			}
		}
	}
}

// 2.2: a rolled checksum is the checksum of the moved window.
func TestRollIsWindow(t *testing.T) {
	text := sample.Bytes() + "a policy on words of events" + strings.Repeat("\xff\x00", 40)
	for _, n := range []int{1, 2, 3, 7, 100, len(text) - 1} {
		rolled := sum.Of(text[:n])
		for end := n; end < len(text); end++ {
			var err error
			rolled, err = sum.Roll(rolled, int(text[end-n]), int(text[end]), n)
			if want := sum.Of(text[end-n+1 : end+1]); rolled != want || err != nil {
				t.Fatalf("Roll of %d bytes to byte %d = %d, %v, want %d", n, end, rolled, err, want)
			}
		}
	}
}

// 2.2: Roll refuses what is no checksum, no byte, and no number of bytes; 0 bytes are too few.
func TestRollRange(t *testing.T) {
	cases := []struct{ sum, out, in, n int }{
		{-1, 0, 0, 1},
		{math.MinInt, 0, 0, 1},
		{top + 1, 0, 0, 1},
		{math.MaxInt, 0, 0, 1},
		{5, -1, 0, 1},
		{5, math.MinInt, 0, 1},
		{5, 256, 0, 1},
		{5, math.MaxInt, 0, 1},
		{5, 0, -1, 1},
		{5, 0, math.MinInt, 1},
		{5, 0, 256, 1},
		{5, 0, math.MaxInt, 1},
		{5, 0, 0, 0},
		{5, 0, 0, -1},
		{5, 0, 0, math.MinInt},
		{5, 0, 0, longest + 1},
		{5, 0, 0, 1 << 32},
		{5, 0, 0, math.MaxInt},
		{-1, 256, -1, 0},
	}
	for _, c := range cases {
		got, err := sum.Roll(c.sum, c.out, c.in, c.n)
		if got != 0 || plain.Told(err) != api.ErrRange {
			t.Errorf("Roll(%d, %d, %d, %d) = %d, %v, want ErrRange", c.sum, c.out, c.in, c.n, got, err)
		}
	}
}
