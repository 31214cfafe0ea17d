package codec

import (
	"iter"
	"strings"

	"pinakes/api"
)

const (
	base       = 128 // of the groups; a byte from here on says that another group follows
	groupBits  = 7
	maxGroups  = 10 // of a number of 64 bits
	maxHighest = 1  // the tenth group has only the one bit that is left of 64
)

// groups yields the groups of n, beginning with the least significant one, and whether each is the last.
func groups(n uint64) iter.Seq2[byte, bool] {
	return func(yield func(byte, bool) bool) {
		left := n
		for left >= base {
			if !yield(byte(left%base), false) {
				return
			}
			left /= base
		}
		yield(byte(left), true)
	}
}

// writeNumber appends the bytes of n.
func writeNumber(b *strings.Builder, n uint64) {
	for group, last := range groups(n) {
		if !last {
			group += base
		}
		b.WriteByte(group)
	}
}

// Number returns n as bytes, as few as possible.
func Number(n uint64) string {
	var b strings.Builder
	writeNumber(&b, n)
	return b.String()
}

// ReadNumber returns the number with which s begins, and how many bytes it has.
func ReadNumber(s string) (uint64, int, api.Errno) {
	var n uint64
	for i := 0; i < len(s) && i < maxGroups; i++ {
		n |= uint64(s[i]%base) << (groupBits * i)
		if s[i] >= base {
			continue
		}
		if !canBeLast(s[i], i) {
			return 0, 0, api.ErrForm
		}
		return n, i + 1, api.OK
	}
	if len(s) < maxGroups {
		return 0, 0, api.ErrShort
	}
	return 0, 0, api.ErrForm
}

// canBeLast says whether a number can end with this group, if so many groups come before it: a zero could be left out, and a tenth group must fit into 64 bits.
func canBeLast(group byte, before int) bool {
	if before == 0 {
		return true
	}
	if before == maxGroups-1 && group > maxHighest {
		return false
	}
	return group != 0
}

// Signed maps the integers to the natural numbers, so that those near 0 stay small.
func Signed(n int) uint64 {
	if n >= 0 {
		return 2 * uint64(n)
	}
	// -2n - 1, without the negation of the least integer.
	return 2*uint64(-(n+1)) + 1
}

// Unsigned undoes Signed.
func Unsigned(n uint64) int {
	half := int(n / 2)
	if n%2 == 0 {
		return half
	}
	// -(n + 1)/2, without the sum, which could overflow.
	return -half - 1
}
