package bits_test

import (
	"math"
	"slices"
	"testing"

	"riddle/api"
	"riddle/bits"
)

// What the tests hold the package against is made here bit by bit, without a call of the package.

// raw is the set of N n with the numbers of l, which must all be from 0 to n - 1.
func raw(n int, l ...int) api.Bits {
	b := api.Bits{N: n, Words: make([]uint64, (n+63)/64)}
	for _, x := range l {
		b.Words[x/64] |= 1 << (x % 64)
	}
	return b
}

// numbers are those of a set that may be, rising.
func numbers(b api.Bits) []int {
	var l []int
	for n := range b.N {
		if b.Words[n/64]>>(n%64)&1 == 1 {
			l = append(l, n)
		}
	}
	return l
}

// those are the numbers from 0 to n - 1 of which keep holds.
func those(n int, keep func(int) bool) []int {
	var l []int
	for x := range n {
		if keep(x) {
			l = append(l, x)
		}
	}
	return l
}

func in(b api.Bits, n int) bool { return slices.Contains(numbers(b), n) }

// expect fails unless b is a set of N n, in its one form, with just the numbers of l.
func expect(t *testing.T, what string, b api.Bits, n int, l []int) {
	t.Helper()
	want := raw(n, l...)
	if b.N != want.N || !slices.Equal(b.Words, want.Words) {
		t.Fatalf("%s: N %d with %v, not N %d with %v", what, b.N, numbers(b), n, l)
	}
}

// edges are the N around words' ends and around the limits.
var edges = []int{0, 1, 2, 63, 64, 65, 70, 127, 128, 129, 191, 192, api.MaxBits - 1, api.MaxBits}

// samplesOf are sets of N n: without and with all numbers, with single ones, with many of no order.
func samplesOf(n int) []api.Bits {
	all := []api.Bits{raw(n), raw(n, those(n, func(int) bool { return true })...)}
	for _, x := range []int{0, 1, 62, 63, 64, 65, n - 2, n - 1} {
		if x >= 0 && x < n {
			all = append(all, raw(n, x))
		}
	}
	for _, seed := range []uint64{1, 2, 3} {
		x := seed
		all = append(all, raw(n, those(n, func(int) bool {
			x = x*6364136223846793005 + 1442695040888963407
			return x>>62 < seed
		})...))
	}
	return all
}

// smallSamples are the samples of all edges but the greatest, for what goes over pairs and triples of sets.
func smallSamples() []api.Bits {
	var all []api.Bits
	for _, n := range edges {
		if n < 256 {
			all = append(all, samplesOf(n)...)
		}
	}
	return all
}

func samples() []api.Bits {
	all := smallSamples()
	for _, n := range edges {
		if n >= 256 {
			all = append(all, samplesOf(n)...)
		}
	}
	return all
}

// refused are sets that Check must refuse, each for another reason.
func refused() []api.Bits {
	return []api.Bits{
		{N: -1},
		{N: -1, Words: []uint64{1}},
		{N: -64, Words: []uint64{1}},
		{N: math.MinInt},
		{N: math.MaxInt},
		{N: math.MaxInt, Words: []uint64{1}},
		{N: api.MaxBits + 1, Words: make([]uint64, 129)},
		{N: api.MaxBits + 64, Words: make([]uint64, 129)},
		{N: 0, Words: []uint64{0}},
		{N: 0, Words: []uint64{1}},
		{N: 1},
		{N: 64},
		{N: 64, Words: []uint64{1, 0}},
		{N: 65, Words: []uint64{1}},
		{N: 65, Words: []uint64{1, 0, 0}},
		{N: api.MaxBits, Words: make([]uint64, 127)},
		{N: 3, Words: []uint64{8}},
		{N: 3, Words: []uint64{7 | 1<<63}},
		{N: 63, Words: []uint64{1 << 63}},
		{N: 65, Words: []uint64{1, 2}},
		{N: 127, Words: []uint64{1, 1 << 63}},
	}
}

// oddNumbers are numbers at and beyond the ends of sets and of int.
var oddNumbers = []int{math.MinInt, math.MinInt + 1, -api.MaxBits - 1, -api.MaxBits, -129, -128, -65, -64, -63, -3, -1, 0, 1, 3, 62, 63, 64, 65, 70, 127, 128, 129, 191, 192, 193, api.MaxBits - 1, api.MaxBits, api.MaxBits + 1, math.MaxInt - 1, math.MaxInt}

func made(t *testing.T, n int, l ...int) api.Bits {
	t.Helper()
	b, e := bits.New(n, l...)
	if e != api.OK {
		t.Fatalf("New(%d, %v): %d", n, l, e)
	}
	return b
}
