package frame_test

import (
	"stileward/api"
	"stileward/sample"
)

// What is here follows the words of the chapters 1 to 3 one by one, without the packages it tests.

// number writes a number by the words of 1.1.
func number(n int) string {
	if n < 128 {
		return string([]byte{byte(n)})
	}
	return string([]byte{byte(n%128 + 128)}) + number(n/128)
}

// numberOf reads a number by the words of 1.1.
func numberOf(s string) (n, used int, wrong api.Errno) {
	weight := 1
	for i := 0; i < 9; i++ {
		if i == len(s) {
			return 0, 0, api.ErrNone
		}
		n += int(s[i]) % 128 * weight
		weight *= 128
		if s[i] == 0 && i > 0 {
			return 0, 0, api.ErrSyntax
		}
		if s[i] < 128 {
			return n, i + 1, api.OK
		}
	}
	return 0, 0, api.ErrSyntax
}

// checksum follows the words of 2.1.
func checksum(s string) int {
	total := 0
	for i := range len(s) {
		total = (257*total + int(s[i]) + 1) % 1000003
	}
	return total
}

// readSlowly follows the words of 3.1.
func readSlowly(s string) (string, int, api.Errno) {
	length, begin, wrong := numberOf(s)
	switch {
	case wrong != api.OK:
		return "", 0, wrong
	case length > 200:
		return "", 0, api.ErrFull
	case len(s[begin:]) < length:
		return "", 0, api.ErrNone
	}
	body := s[begin : begin+length]
	check, size, wrong := numberOf(s[begin+length:])
	switch {
	case wrong != api.OK:
		return "", 0, wrong
	case check != checksum(body):
		return "", 0, api.ErrSum
	}
	return body, begin + length + size, api.OK
}

// scanSlowly follows the words of 3.2.
func scanSlowly(s string) ([]string, int, api.Errno) {
	body, size, wrong := readSlowly(s)
	if s == "" || wrong == api.ErrNone {
		return nil, 0, api.OK
	}
	if wrong != api.OK {
		return nil, 0, wrong
	}
	bodies, used, wrong := scanSlowly(s[size:])
	return append([]string{body}, bodies...), size + used, wrong
}

// shortTexts are texts of few bytes, among them frames in a row, and errors of each kind behind them.
func shortTexts() []string {
	texts := sample.Texts(2, sample.Bytes())
	texts = append(texts, sample.Texts(7, "\x00\x01\x02\x80\xff")...)
	texts = append(texts, sample.Texts(8, "\x00\x01ab")...)
	return append(texts, sample.Texts(12, "\x00\xff")...)
}
