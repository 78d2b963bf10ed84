package sample_test

import (
	"slices"
	"testing"

	"stileward/sample"
)

// Bytes has each byte at its place.
func TestBytes(t *testing.T) {
	all := sample.Bytes()
	if len(all) != 256 {
		t.Fatalf("there are %d bytes", len(all))
	}
	for i := range len(all) {
		if int(all[i]) != i {
			t.Errorf("byte %d is %d", i, all[i])
		}
	}
}

// Texts has each short text once.
func TestTexts(t *testing.T) {
	cases := []struct {
		n     int
		bytes string
		want  []string
	}{
		{-1, "ab", []string{""}},
		{0, "ab", []string{""}},
		{2, "", []string{""}},
		{1, "\x00\xff", []string{"", "\x00", "\xff"}},
		{2, "ab", []string{"", "a", "b", "aa", "ab", "ba", "bb"}},
		{3, "a", []string{"", "a", "aa", "aaa"}},
	}
	for _, c := range cases {
		if got := sample.Texts(c.n, c.bytes); !slices.Equal(got, c.want) {
			t.Errorf("Texts(%d, %q) = %q, want %q", c.n, c.bytes, got, c.want)
		}
	}
}
