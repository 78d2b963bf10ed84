// Package sample makes the texts, words, automata and formulas that the tests of several
// packages go through, and has what these tests ask of errors and memory.
package sample

import (
	"errors"
	"math"
	"slices"
	"strings"

	"stileward/api"
)

// Bytes returns the text of all bytes in order.
func Bytes() string {
	b := make([]byte, 256)
	for i := range b {
		b[i] = byte(i)
	}
	return string(b)
}

// Texts returns all texts of at most n bytes, each of them out of some bytes, the shorter texts first.
func Texts(n int, bytes string) []string {
	texts := []string{""}
	for begin := 0; n > 0; n-- {
		end := len(texts)
		for _, text := range texts[begin:end] {
			for i := range len(bytes) {
				texts = append(texts, text+bytes[i:i+1])
			}
		}
		begin = end
	}
	return texts
}

// Word returns the word whose letters are the bytes of a text, as numbers from -128 to 127.
func Word(text string) []int {
	w := make([]int, len(text))
	for i := range w {
		w[i] = int(int8(text[i]))
	}
	return w
}

// Digits returns the word whose letters are the digits of a text.
func Digits(text string) []int {
	w := make([]int, len(text))
	for i := range w {
		w[i] = int(text[i] - '0')
	}
	return w
}

// SetOf returns the set of the letters that are the digits of a text.
func SetOf(text string) int {
	set := 0
	for _, letter := range Digits(text) {
		set |= 1 << letter
	}
	return set
}

// Has tells whether a set contains a letter.
func Has(set, letter int) bool { return set/(1<<letter)%2 == 1 }

// Split returns the words of a text that are parted by spaces; there is a . for the empty one.
func Split(text string) []string {
	words := strings.Fields(text)
	for i, w := range words {
		if w == "." {
			words[i] = ""
		}
	}
	return words
}

// Some returns some of all words: about one of as many.
func Some(below func(n int) int, all []string, of int) []string {
	var words []string
	for _, w := range all {
		if below(of) == 0 {
			words = append(words, w)
		}
	}
	return words
}

// Words returns all words of at most n letters, in length-lexicographic order.
func Words(n, letters int) [][]int {
	var words [][]int
	for _, text := range Texts(n, Bytes()[:letters]) {
		words = append(words, Word(text))
	}
	return words
}

// Repeated returns the word of n times one letter.
func Repeated(n, letter int) []int { return slices.Repeat([]int{letter}, n) }

// Replaced returns a word with another number at one place.
func Replaced(w []int, at, number int) []int {
	w = slices.Clone(w)
	w[at] = number
	return w
}

// Below returns a function that returns a number from 0 to n-1. There is no order in these
// numbers; they are others for each seed, but always the same ones for the same seed.
func Below(seed uint64) func(n int) int {
	return func(n int) int {
		// The constants are those of Knuth's MMIX; the low bits of such numbers have short periods.
		seed = seed*6364136223846793005 + 1442695040888963407
		return int(seed>>33) % n
	}
}

// MixedWord returns a word out of the numbers of Below.
func MixedWord(seed uint64, length, letters int) []int {
	below := Below(seed)
	w := make([]int, length)
	for i := range w {
		w[i] = below(letters)
	}
	return w
}

// NoLetters returns numbers that are no letters, whatever the alphabet.
func NoLetters() []int { return []int{-1, 6, 7, -6, 256, 1 << 32, math.MinInt, math.MaxInt} }

// MixedOffers returns the word of MixedWord, but now and then with what is no letter.
func MixedOffers(seed uint64, length, letters int) []int {
	offers := MixedWord(seed, length, letters)
	bad := NoLetters()
	for i, at := range MixedWord(seed+1, length, 12*len(bad)) {
		if at < len(bad) {
			offers[i] = bad[at]
		}
	}
	return offers
}

// behind is what no function may find behind the end of an argument.
const behind = -7

// Roomy returns a word with memory behind its end, and a function that tells
// whether the word and that memory are still as they were.
func Roomy(w []int) ([]int, func() bool) {
	memory := append(slices.Clone(w), slices.Repeat([]int{behind}, len(w)+9)...)
	before := slices.Clone(memory)
	return memory[:len(w)], func() bool { return slices.Equal(memory, before) }
}

// Fill writes a number everywhere in a list and in the memory behind its end.
func Fill(list []int, number int) {
	list = list[:cap(list)]
	for i := range list {
		list[i] = number
	}
}

// Pluses returns a value for each byte of a text: whether it is a +.
func Pluses(text string) []bool {
	values := make([]bool, len(text))
	for i := range values {
		values[i] = text[i] == '+'
	}
	return values
}

// SpoilBools writes a value everywhere in a list and in the memory behind its end. The function
// that it returns tells whether it is still everywhere there.
func SpoilBools(list []bool, value bool) func() bool {
	list = list[:cap(list)]
	for i := range list {
		list[i] = value
	}
	return func() bool { return !slices.Contains(list, !value) }
}

// OnlyErrno tells whether an error is, or wraps, one Errno and no other one.
func OnlyErrno(err error, want api.Errno) bool {
	for e := api.OK; e <= api.ErrLate; e++ {
		if errors.Is(err, e) != (e == want) {
			return false
		}
	}
	var e api.Errno
	return errors.As(err, &e) && e == want
}
