package class_test

import (
	"slices"
	"testing"

	"riddle/api"
)

// What the tests hold the package against is made here bit by bit, without a call of the package.

// raw is the class of the bytes of l.
func raw(l ...byte) api.Class {
	var c api.Class
	for _, b := range l {
		c[b/64] |= 1 << (b % 64)
	}
	return c
}

// those are the bytes of which keep holds, rising.
func those(keep func(byte) bool) []byte {
	var l []byte
	for n := range 256 {
		if keep(byte(n)) {
			l = append(l, byte(n))
		}
	}
	return l
}

func in(c api.Class, b byte) bool { return c[b/64]&(1<<(b%64)) != 0 }

// bytesOf are the bytes of c, rising.
func bytesOf(c api.Class) []byte { return those(func(b byte) bool { return in(c, b) }) }

// expect fails unless c has just the bytes of l.
func expect(t *testing.T, what string, c api.Class, l []byte) {
	t.Helper()
	if got := bytesOf(c); !slices.Equal(got, l) {
		t.Fatalf("%s: %v, not %v", what, got, l)
	}
}

// edges are the bytes at the ends of words, of letters, of digits, of what can be seen, and of all.
var edges = []byte{0, 1, 8, 9, 13, 14, 31, 32, 33, 47, 48, 57, 58, 63, 64, 65, 90, 91, 96, 97, 122, 123, 126, 127, 128, 191, 192, 193, 223, 224, 254, 255}

// samples are the class of none, of all, of single bytes and of all but one, of runs, and of many bytes of no order.
func samples() []api.Class {
	full := raw(those(func(byte) bool { return true })...)
	all := []api.Class{{}, full}
	for _, b := range edges {
		one := raw(b)
		rest := raw(those(func(x byte) bool { return x != b })...)
		low := raw(those(func(x byte) bool { return x <= b })...)
		high := raw(those(func(x byte) bool { return x >= b })...)
		all = append(all, one, rest, low, high)
	}
	for n := range 4 {
		all = append(all, raw(those(func(x byte) bool { return int(x)%4 <= n && x > 40 })...))
	}
	return append(all, scattered()...)
}

// scattered are classes of no order, with few bytes, with half of them and with most.
func scattered() []api.Class {
	var all []api.Class
	x := uint64(1)
	for share := range 8 {
		for range 3 {
			all = append(all, raw(those(func(byte) bool {
				x = x*6364136223846793005 + 1442695040888963407
				return int(x>>61) < share
			})...))
		}
	}
	return all
}

// fewSamples are for what goes over triples of classes.
func fewSamples() []api.Class {
	few := []api.Class{{}, raw(those(func(byte) bool { return true })...), raw(0), raw(255), raw('A'), raw('a'), raw('z', '{'), raw(63, 64)}
	return append(few, scattered()...)
}
