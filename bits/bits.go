// Package bits is layer 1, sets of small numbers as words of bits: see shared/doc/01-bits.md.
package bits

import (
	"iter"
	mathbits "math/bits"
	"slices"

	"riddle/api"
)

// New answers the set of N n that has those numbers of l that are from 0 to n - 1.
func New(n int, l ...int) (api.Bits, api.Errno) {
	if n < 0 || n > api.MaxBits {
		return api.Bits{}, api.ErrArg
	}
	b := empty(n)
	for _, x := range l {
		put(b, x)
	}
	return b, api.OK
}

// Check answers ErrBits of a set that may not be.
func Check(b api.Bits) api.Errno {
	if b.N < 0 || b.N > api.MaxBits || len(b.Words) != wordsOf(b.N) {
		return api.ErrBits
	}
	if b.N > 0 && b.Words[len(b.Words)-1]&^lastMask(b.N) != 0 {
		return api.ErrBits
	}
	return api.OK
}

// Has answers whether n is in b.
func Has(b api.Bits, n int) bool {
	b = sound(b)
	return n >= 0 && n < b.N && b.Words[n/64]>>(n%64)&1 == 1
}

// With answers b with n, if n is from 0 to N - 1.
func With(b api.Bits, n int) api.Bits {
	c := copied(b)
	put(c, n)
	return c
}

// Without answers b without n.
func Without(b api.Bits, n int) api.Bits {
	c := copied(b)
	if n >= 0 && n < c.N {
		c.Words[n/64] &^= 1 << (n % 64)
	}
	return c
}

// Or answers the numbers below a's N that are in a, in b, or in both.
func Or(a, b api.Bits) api.Bits {
	c, b := copied(a), sound(b)
	for i := range c.Words {
		c.Words[i] |= wordAt(b, i)
	}
	cutLast(c)
	return c
}

// And answers the numbers that are in both, of a's N.
func And(a, b api.Bits) api.Bits {
	c, b := copied(a), sound(b)
	for i := range c.Words {
		c.Words[i] &= wordAt(b, i)
	}
	return c
}

// Not answers the numbers that are in a and not in b, of a's N.
func Not(a, b api.Bits) api.Bits {
	c, b := copied(a), sound(b)
	for i := range c.Words {
		c.Words[i] &^= wordAt(b, i)
	}
	return c
}

// Shift answers the numbers k more, of those that are from 0 to N - 1 then.
func Shift(b api.Bits, k int) api.Bits {
	b = sound(b)
	c := empty(b.N)
	// Both are rounded down, so that a k below 0 is words to the other side and then up, too; no k is too great for that.
	words, up := k>>6, k&63
	for i := range c.Words {
		c.Words[i] = wordAt(b, i-words)<<up | wordAt(b, i-words-1)>>(64-up)
	}
	cutLast(c)
	return c
}

// First answers the least number in b that is from or more, and whether there is one.
func First(b api.Bits, from int) (int, bool) {
	b = sound(b)
	from = max(from, 0)
	if from >= b.N {
		return 0, false
	}
	at := from / 64
	w := b.Words[at] >> (from % 64) << (from % 64)
	for w == 0 {
		at++
		if at == len(b.Words) {
			return 0, false
		}
		w = b.Words[at]
	}
	return at*64 + mathbits.TrailingZeros64(w), true
}

// Last answers the greatest number in b, and whether there is one.
func Last(b api.Bits) (int, bool) {
	b = sound(b)
	for i := len(b.Words) - 1; i >= 0; i-- {
		if w := b.Words[i]; w != 0 {
			return i*64 + mathbits.Len64(w) - 1, true
		}
	}
	return 0, false
}

// Count answers how many numbers are in b.
func Count(b api.Bits) int {
	n := 0
	for _, w := range sound(b).Words {
		n += mathbits.OnesCount64(w)
	}
	return n
}

// All goes through the numbers of b, rising.
func All(b api.Bits) iter.Seq[int] {
	// The copy is made here and not at the range: b's owner may write to it in between.
	c := copied(b)
	return func(yield func(int) bool) {
		for i, w := range c.Words {
			for ; w != 0; w &= w - 1 {
				if !yield(i*64 + mathbits.TrailingZeros64(w)) {
					return
				}
			}
		}
	}
}

// Meet answers whether a number is in both.
func Meet(a, b api.Bits) bool {
	a, b = sound(a), sound(b)
	for i, w := range a.Words {
		if w&wordAt(b, i) != 0 {
			return true
		}
	}
	return false
}

// Same answers whether N and the numbers are the same.
func Same(a, b api.Bits) bool {
	a, b = sound(a), sound(b)
	return a.N == b.N && slices.Equal(a.Words, b.Words)
}

// sound is b as all calls but Check take it: a set that Check refuses is the empty one of N 0.
func sound(b api.Bits) api.Bits {
	if Check(b) != api.OK {
		return api.Bits{}
	}
	return b
}

// copied is what sound answers, in memory of its own.
func copied(b api.Bits) api.Bits {
	b = sound(b)
	c := empty(b.N)
	copy(c.Words, b.Words)
	return c
}

// empty makes the empty set of N n, which must be from 0 to MaxBits; that of N 0 is the zero struct.
func empty(n int) api.Bits {
	if n == 0 {
		return api.Bits{}
	}
	return api.Bits{N: n, Words: make([]uint64, wordsOf(n))}
}

// put writes to b itself, so it is only for sets that this package has just made.
func put(b api.Bits, n int) {
	if n >= 0 && n < b.N {
		b.Words[n/64] |= 1 << (n % 64)
	}
}

// wordAt is 0 outside b's words, so that sets of other N and shifts need no bounds of their own.
func wordAt(b api.Bits, i int) uint64 {
	if i < 0 || i >= len(b.Words) {
		return 0
	}
	return b.Words[i]
}

// cutLast takes away the numbers that are not below N, which whole words let in.
func cutLast(b api.Bits) {
	if b.N > 0 {
		b.Words[len(b.Words)-1] &= lastMask(b.N)
	}
}

// wordsOf is how many words n numbers take.
func wordsOf(n int) int { return (n + 63) / 64 }

// lastMask is the bits that may be 1 in the last word of a set of N n, which must be above 0.
func lastMask(n int) uint64 { return ^uint64(0) >> (63 - (n-1)%64) }
