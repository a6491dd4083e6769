// Package octet is layer 1: see shared/doc/01-octet.md.
package octet

import (
	"iter"

	"stereobate/api"
)

const (
	digitBits = 7
	more      = 1 << digitBits // added to every byte of an encoding but the last
	maxDigits = 6              // as many as MaxNum has
	sumBase   = 31
	sumMod    = 65521
)

// Put encodes n, which is from 0 to MaxNum, in as few bytes as possible.
func Put(n int) (string, api.Errno) {
	if n < 0 || n > api.MaxNum {
		return "", api.ErrArg
	}
	var out []byte
	for b := range digits(uint64(n)) {
		out = append(out, b)
	}
	return string(out), api.OK
}

// digits yields the bytes of n's encoding, the least significant digit first.
func digits(n uint64) iter.Seq[byte] {
	return func(yield func(byte) bool) {
		rest := n // n itself stays, so that the sequence can be gone through again
		for rest >= more {
			if !yield(byte(rest) | more) {
				return
			}
			rest >>= digitBits
		}
		yield(byte(rest))
	}
}

// Get reads the number whose encoding begins at at, and returns the position after it as well.
func Get(s string, at int) (int, int, api.Errno) {
	if at < 0 || at > len(s) {
		return 0, 0, api.ErrArg
	}
	n := uint64(0)
	for i := range len(s) - at {
		b := s[at+i]
		// A last digit 0 would be a second encoding of the same number.
		if i == maxDigits || i > 0 && b == 0 {
			return 0, 0, api.ErrByte
		}
		n |= uint64(b&^more) << (digitBits * i)
		if b < more {
			return ended(n, at+i+1)
		}
	}
	return 0, 0, api.ErrEnd
}

// ended refuses a number that has six digits and yet is over MaxNum.
func ended(n uint64, next int) (int, int, api.Errno) {
	if n > api.MaxNum {
		return 0, 0, api.ErrByte
	}
	return int(n), next, api.OK
}

// Sum is a checksum of s.
func Sum(s string) int {
	sum := 0
	for i := range len(s) {
		sum = (sum*sumBase + int(s[i]) + 1) % sumMod
	}
	return sum
}
