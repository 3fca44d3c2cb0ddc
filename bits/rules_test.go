package bits_test

import (
	"math"
	"slices"
	"testing"

	"riddle/api"
	"riddle/bits"
)

// oddSets are sets that may be, and such that Check refuses.
func oddSets() []api.Bits { return append(samples(), refused()...) }

// answersOfOne are all calls of one set and a number that answer a set.
func answersOfOne(b api.Bits, n int) []api.Bits {
	return []api.Bits{bits.With(b, n), bits.Without(b, n), bits.Shift(b, n), bits.Shift(b, 0)}
}

// answersOfTwo are all calls of two sets that answer a set.
func answersOfTwo(a, b api.Bits) []api.Bits {
	return []api.Bits{bits.Or(a, b), bits.And(a, b), bits.Not(a, b)}
}

// R1

func TestNoCallPanics(t *testing.T) {
	for _, a := range oddSets() {
		for _, n := range oddNumbers {
			for _, c := range answersOfOne(a, n) {
				if bits.Check(c) != api.OK {
					t.Fatalf("N %d and %d: an answer that Check refuses", a.N, n)
				}
			}
			bits.Has(a, n)
			bits.First(a, n)
		}
		for _, b := range oddSets() {
			for _, c := range answersOfTwo(a, b) {
				if bits.Check(c) != api.OK {
					t.Fatalf("N %d, N %d: an answer that Check refuses", a.N, b.N)
				}
			}
			bits.Meet(a, b)
			bits.Same(a, b)
		}
	}
	for _, n := range oddNumbers {
		if _, e := bits.New(n, oddNumbers...); e != api.OK && e != api.ErrArg {
			t.Errorf("New(%d): %d", n, e)
		}
	}
}

// R3

// guarded is b with words in a greater memory, whose other words are 1s: what is written behind the set is seen, too.
func guarded(b api.Bits) (api.Bits, []uint64) {
	memory := make([]uint64, len(b.Words)+4)
	for i := range memory {
		memory[i] = math.MaxUint64
	}
	copy(memory, b.Words)
	return api.Bits{N: b.N, Words: memory[:len(b.Words)]}, memory
}

func spoil(b api.Bits) {
	words := b.Words[:cap(b.Words)]
	for i := range words {
		words[i] = ^words[i]
	}
}

func TestArgumentsAreTheirOwners(t *testing.T) {
	for _, x := range append(samplesOf(130), refused()...) {
		for _, y := range append(samplesOf(70), refused()...) {
			a, first := guarded(x)
			b, second := guarded(y)
			firstWas, secondWas := slices.Clone(first), slices.Clone(second)
			answers := append(answersOfTwo(a, b), answersOfOne(a, 3)...)
			answers = append(answers, answersOfOne(a, -1)...)
			for _, c := range answers {
				spoil(c)
			}
			readAll(a, b)
			if !slices.Equal(first, firstWas) || !slices.Equal(second, secondWas) {
				t.Fatalf("N %d, N %d: an argument was written to, or is part of an answer", x.N, y.N)
			}
		}
	}
}

// readAll does all calls that answer no set.
func readAll(a, b api.Bits) {
	bits.Check(a)
	bits.Has(a, 3)
	bits.First(a, 0)
	bits.Last(a)
	bits.Count(a)
	bits.Meet(a, b)
	bits.Same(a, b)
	for range bits.All(a) {
	}
}

func TestAnswersAreOnesOwn(t *testing.T) {
	a, b := raw(130, 0, 64, 129), raw(130, 64, 65)
	answers := append(answersOfTwo(a, b), append(answersOfOne(a, 3), answersOfOne(a, 130)...)...)
	var were [][]int
	for _, c := range answers {
		were = append(were, numbers(c))
	}
	spoil(a)
	spoil(b)
	for i, c := range answers {
		expect(t, "an answer as its arguments change", c, 130, were[i])
	}
	for i := range answers {
		spoil(answers[i])
		for j := i + 1; j < len(answers); j++ {
			expect(t, "an answer as another one changes", answers[j], 130, were[j])
		}
	}
}

func TestNewKeepsNoNumbers(t *testing.T) {
	l := []int{3, 69, 70, -1}
	b := made(t, 70, l...)
	if !slices.Equal(l, []int{3, 69, 70, -1}) {
		t.Error("New wrote to its numbers", l)
	}
	l[0] = 5
	expect(t, "New as its numbers change", b, 70, []int{3, 69})
	other := made(t, 70, 3, 69)
	spoil(b)
	expect(t, "New as another one changes", other, 70, []int{3, 69})
}

func TestAllTellsWhatWasThere(t *testing.T) {
	b := raw(130, 0, 64, 129)
	all := bits.All(b)
	b.Words[0], b.Words[1], b.Words[2] = 6, 0, 0
	if l := slices.Collect(all); !slices.Equal(l, []int{0, 64, 129}) {
		t.Error(l)
	}
	b = raw(130, 0, 64, 129)
	var l []int
	for n := range bits.All(b) {
		l = append(l, n)
		b.Words[2] = 0
	}
	if !slices.Equal(l, []int{0, 64, 129}) {
		t.Error("changed on the way:", l)
	}
}

func TestAllStopsAndBeginsAnew(t *testing.T) {
	want := []int{0, 5, 63, 64, 129}
	all := bits.All(raw(130, want...))
	for stop := range len(want) + 1 {
		var l []int
		for n := range all {
			if len(l) == stop {
				break
			}
			l = append(l, n)
		}
		if !slices.Equal(l, want[:stop]) {
			t.Errorf("stopped at %d: %v", stop, l)
		}
	}
	for n := range all {
		for m := range all {
			if m > n {
				break
			}
		}
	}
	if l := slices.Collect(all); !slices.Equal(l, want) {
		t.Error("anew:", l)
	}
}

// R4, R5

func TestNilAndEmptyWords(t *testing.T) {
	null, none := api.Bits{}, api.Bits{Words: []uint64{}}
	if bits.Check(null) != api.OK || bits.Check(none) != api.OK || !bits.Same(null, none) {
		t.Error("N 0 without words is a set, and one")
	}
	if !bits.Same(made(t, 0), null) || !bits.Same(made(t, 0, []int{}...), none) {
		t.Error("New of 0 is another one")
	}
	for _, b := range []api.Bits{null, none} {
		for _, n := range oddNumbers {
			for _, c := range answersOfOne(b, n) {
				expect(t, "of N 0", c, 0, nil)
			}
		}
		for _, c := range answersOfTwo(b, raw(70, 0, 69)) {
			expect(t, "of N 0", c, 0, nil)
		}
		expect(t, "Or", bits.Or(raw(70, 0, 69), b), 70, []int{0, 69})
	}
}

// R6

func TestSameCallsAnswerTheSame(t *testing.T) {
	for _, a := range smallSamples() {
		for _, b := range samplesOf(130) {
			once, again := answersOfTwo(a, b), answersOfTwo(a, b)
			for _, n := range []int{-65, 0, 64} {
				once, again = append(once, answersOfOne(a, n)...), append(again, answersOfOne(a, n)...)
			}
			for i := range once {
				expect(t, "again", again[i], once[i].N, numbers(once[i]))
			}
		}
	}
}
