// Package pack encodes non-negative integers with seven bits per byte.
package pack

import (
	"stileward/api"
)

const (
	digitBits = 7
	base      = 1 << digitBits
	// maxDigits is enough for every non-negative int, as 9 times 7 is 63 bits.
	maxDigits = 9
)

// Num writes a number in base 128, the least significant digit first; every
// byte but the last one is increased by 128.
func Num(n int) (string, error) {
	if n < 0 {
		return "", api.ErrRange
	}
	return string(appendNum(nil, n)), nil
}

// ReadNum reads the number that a text begins with, and tells how many bytes it took.
func ReadNum(s string) (int, int, error) {
	n := 0
	for i := 0; i < len(s) && i < maxDigits; i++ {
		b := int(s[i])
		if b >= base {
			n |= (b - base) << (digitBits * i)
			continue
		}
		if b == 0 && i > 0 {
			// Num would have ended the number before this digit.
			return 0, 0, api.ErrSyntax
		}
		return n | b<<(digitBits*i), i + 1, nil
	}
	if len(s) < maxDigits {
		return 0, 0, api.ErrNone
	}
	return 0, 0, api.ErrSyntax
}

// List writes the number of elements, and then the elements.
func List(l []int) (string, error) {
	if len(l) > api.MaxList {
		return "", api.ErrFull
	}
	b := appendNum(nil, len(l))
	for _, n := range l {
		if n < 0 {
			return "", api.ErrRange
		}
		b = appendNum(b, n)
	}
	return string(b), nil
}

// ReadList reads the list that a text begins with, and tells how many bytes it took.
func ReadList(s string) ([]int, int, error) {
	count, used, err := ReadNum(s)
	if err != nil {
		return nil, 0, err
	}
	if count > api.MaxList {
		return nil, 0, api.ErrFull
	}
	var l []int
	for range count {
		n, size, err := ReadNum(s[used:])
		if err != nil {
			return nil, 0, err
		}
		l = append(l, n)
		used += size
	}
	return l, used, nil
}

// appendNum appends the bytes of a number that is not negative.
func appendNum(b []byte, n int) []byte {
	for n >= base {
		b = append(b, byte(n%base+base))
		n /= base
	}
	return append(b, byte(n))
}
