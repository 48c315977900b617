// Package num is layer 1: sums with an end, and numbers packed into words: see shared/doc/01-num.md.
package num

import (
	"math"
	mathbits "math/bits"

	"hansom/api"
)

// wordBits is how many bits a word has: the widest width, and the most that widths may be together.
const wordBits = 64

// Add answers the sum of a and b, which ends at Inf; a number below 0 counts as 0.
func Add(a, b int64) int64 {
	a, b = max(a, 0), max(b, 0)
	// b is held against what is left below Inf: the sum of two numbers from outside could go round.
	if a >= api.Inf || b >= api.Inf-a {
		return api.Inf
	}
	return a + b
}

// Less tells whether a is below b, and below Inf: of two distances past the end neither is the lesser one.
func Less(a, b int64) bool {
	return a < b && a < api.Inf
}

// Min answers the lesser one of both.
func Min(a, b int64) int64 {
	return min(a, b)
}

// Pack lays numbers into one word, the first in the lowest bits, each into as many bits as its width says.
func Pack(v []uint64, bits []int) (uint64, api.Errno) {
	if _, right := total(bits); !right || len(v) != len(bits) {
		return 0, api.ErrArg
	}
	var word uint64
	var at uint
	for i, x := range v {
		width := uint(bits[i])
		if x>>width != 0 {
			return 0, api.ErrOver
		}
		word |= x << at
		at += width
	}
	return word, api.OK
}

// Unpack answers the numbers that Pack laid into a word with these widths.
func Unpack(w uint64, bits []int) ([]uint64, api.Errno) {
	all, right := total(bits)
	if !right {
		return nil, api.ErrArg
	}
	if w>>all != 0 {
		return nil, api.ErrForm
	}
	v := make([]uint64, 0, len(bits))
	rest := w
	for _, b := range bits {
		width := uint(b)
		v = append(v, rest&mask(width))
		rest >>= width
	}
	return v, api.OK
}

// total answers the sum of widths, and whether they are right.
func total(bits []int) (uint, bool) {
	sum := 0
	for _, b := range bits {
		// What is left is asked for, not the sum: widths from outside could make it go round.
		if b < 1 || b > wordBits-sum {
			return 0, false
		}
		sum += b
	}
	return uint(sum), true
}

// mask answers a word whose lowest bits are set, as many as width; a shift by a whole word leaves 0, so 64 sets them all.
func mask(width uint) uint64 {
	return uint64(1)<<width - 1
}

// Narrow answers what v is as a number with a sign of so many bits, and whether that is v itself.
func Narrow(v int64, bits int) (int64, bool) {
	if bits < 1 || bits > wordBits {
		return 0, false
	}
	above := uint(wordBits - bits)
	// The lowest bits go to the top, where the conversion makes the highest of them the sign that comes down with them.
	narrow := int64(uint64(v)<<above) >> above
	return narrow, narrow == v
}

// Ones answers how many bits of a word are set.
func Ones(w uint64) int {
	return mathbits.OnesCount64(w)
}

// Log answers the number of the highest bit that is set; -1 of 0.
func Log(w uint64) int {
	return mathbits.Len64(w) - 1
}

// Key answers the pair of two nodes, and whether both may be in one.
func Key(a, b int) (api.Pair, bool) {
	if !isNode(a) || !isNode(b) {
		return api.Pair{}, false
	}
	return api.Pair{From: int32(a), To: int32(b)}, true
}

// isNode tells whether a number is one that a pair can hold.
func isNode(n int) bool {
	return n >= 0 && n <= math.MaxInt32
}
