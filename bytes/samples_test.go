package bytes_test

import (
	"encoding/binary"
	"math"
	"slices"
	"testing"

	"riddle/api"
)

// What the tests hold the package against is made here without a call of the package.

// form is x as size bytes, the lowest one first.
func form(size int, x uint64) []byte {
	return binary.LittleEndian.AppendUint64(nil, x)[:size]
}

// join is all parts, one behind the other.
func join(parts ...[]byte) []byte { return slices.Concat(parts...) }

// plainSum is the sum without a step in between that is cut: of each byte, how often it comes to a and to b. That holds while b is below 2^64 as a whole, which is so of all bytes that the tests have.
func plainSum(x []byte) uint64 {
	const prime = 4294967291
	a, b := uint64(1), uint64(len(x))
	for i, v := range x {
		a += uint64(v)
		b += uint64(v) * uint64(len(x)-i)
	}
	return b%prime<<32 + a%prime
}

// chance makes numbers of no order, always the same ones.
type chance uint64

func (c *chance) next() uint64 {
	*c = *c*6364136223846793005 + 1442695040888963407
	x := uint64(*c)
	return x ^ x>>33
}

func (c *chance) below(n int) int { return int((c.next() >> 8) % uint64(n)) }

func (c *chance) bytes(n int) []byte {
	b := make([]byte, n)
	for i := range b {
		b[i] = byte(c.next() >> 20)
	}
	return b
}

// set is a set of N n.
func (c *chance) set(n int) api.Bits {
	s := raw(n)
	for x := range n {
		if c.below(3) == 0 {
			s.Words[x/64] |= 1 << (x % 64)
		}
	}
	return s
}

// raw is the set of N n with the numbers of l, which must all be from 0 to n - 1.
func raw(n int, l ...int) api.Bits {
	s := api.Bits{N: n, Words: make([]uint64, (n+63)/64)}
	for _, x := range l {
		s.Words[x/64] |= 1 << (x % 64)
	}
	return s
}

// words is the form of a set's words.
func words(s api.Bits) []byte {
	var b []byte
	for _, w := range s.Words {
		b = append(b, form(8, w)...)
	}
	return b
}

// full is the set of N n with all its numbers.
func full(n int) api.Bits {
	s := raw(n)
	for x := range n {
		s.Words[x/64] |= 1 << (x % 64)
	}
	return s
}

// sets are sets of all N at words' ends and at the limits.
func sets() []api.Bits {
	l := []api.Bits{{}, {Words: []uint64{}}, raw(70, 1, 69)}
	c := chance(1)
	for _, n := range []int{0, 1, 2, 63, 64, 65, 127, 128, 129, api.MaxBits - 1, api.MaxBits} {
		l = append(l, raw(n), full(n), c.set(n))
	}
	return l
}

// refused are sets that bits.Check must refuse, each for another reason.
func refused() []api.Bits {
	return []api.Bits{
		{N: -1},
		{N: math.MinInt, Words: []uint64{1}},
		{N: math.MaxInt, Words: []uint64{1}},
		{N: api.MaxBits + 1, Words: make([]uint64, 129)},
		{N: 0, Words: []uint64{0}},
		{N: 1},
		{N: 64, Words: []uint64{1, 0}},
		{N: 65, Words: []uint64{1}},
		{N: 3, Words: []uint64{8}},
		{N: 65, Words: []uint64{1, 2}},
	}
}

// texts are byte strings, from none to such as make both halves of a sum great.
func texts() [][]byte {
	c := chance(2)
	l := [][]byte{nil, {}, {0}, {5}, {255}, {0, 0, 0}, []byte("hello"), slices.Repeat([]byte{255}, 300), make([]byte, 256)}
	for _, n := range []int{2, 7, 8, 9, 63, 255, 1000, 70000} {
		l = append(l, c.bytes(n))
	}
	return l
}

// numbers are such as stand at the ends of each size.
func numbers() []uint64 {
	l := []uint64{0, 1, 2, 300, 1<<40 + 2, 0x0123456789abcdef, math.MaxUint64}
	for size := 1; size <= 7; size++ {
		l = append(l, 1<<(8*size)-1, 1<<(8*size), 1<<(8*size)+1)
	}
	return l
}

// sizes are sizes, each with the one that it means.
var sizes = []struct{ given, meant int }{
	{math.MinInt, 1}, {-8, 1}, {-1, 1}, {0, 1}, {1, 1}, {2, 2}, {3, 3}, {4, 4}, {5, 5}, {6, 6}, {7, 7}, {8, 8}, {9, 8}, {16, 8}, {256, 8}, {math.MaxInt, 8},
}

func expect(t *testing.T, what string, got, want []byte) {
	t.Helper()
	if slices.Equal(got, want) {
		return
	}
	if len(got) > 100 || len(want) > 100 {
		t.Fatalf("%s: %d bytes that are not the %d that are asked for", what, len(got), len(want))
	}
	t.Fatalf("%s: %v, not %v", what, got, want)
}
