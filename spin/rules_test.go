package spin_test

import (
	"fmt"
	"math"
	"slices"
	"testing"

	"riddle/spin"
)

// given is what calls are handed.
type given struct {
	w       []byte
	n       int
	z, a    complex128
	out, in byte
}

// parts are of all sorts.
func parts() []float64 {
	return append([]float64{0, math.Copysign(0, -1), 1, -1, 15, 1<<31 - 1, -1 << 31, 1<<40 - 1, 1 - 1<<40}, odd...)
}

// sorts are arguments of all sorts, such that have an answer by the chapter's words and such that have not.
func sorts() []given {
	var l []given
	c := chance(41)
	for _, re := range parts() {
		for _, im := range parts() {
			for _, n := range []int{far[c.below(len(far))], 1 + c.below(12), million} {
				l = append(l, given{c.text(c.below(12)), n, complex(re, im), complex(im, re), c.byte(), c.byte()})
			}
		}
	}
	for _, n := range far {
		l = append(l, given{n: n}, given{c.text(100), n, 3 + 5i, -7, 0, 255})
	}
	return l
}

// said are all answers; the sign of a nought is none of them.
func said(g given) string {
	text := ""
	add := func(l ...complex128) {
		for _, z := range l {
			text += fmt.Sprint(real(z)+0, imag(z)+0, " ")
		}
	}
	add(spin.Gauss(g.out), spin.Turn(g.z, g.n), spin.Of(g.w), spin.Roll(g.z, g.n, g.out, g.in), spin.Join(g.a, g.n, g.z))
	for at, z := range spin.All(g.w, g.n) {
		text += fmt.Sprint(at, ": ")
		add(z)
	}
	return text + fmt.Sprint(spin.Word(g.z), spin.Word(g.a))
}

// R1

func TestNoCallPanics(t *testing.T) {
	for _, g := range sorts() {
		said(g)
	}
}

// Whatever the numbers are, those of bytes are what the chapter says.
func TestOddNumbersSpoilNothing(t *testing.T) {
	for _, g := range sorts() {
		said(g)
		isNumber(t, "Of", spin.Of(g.w), of(g.w))
		isNumber(t, "Gauss", spin.Gauss(g.in), gauss(g.in))
		isWindows(t, g.w, g.n)
	}
}

// R3

// wholeOf is w up to the end of its memory.
func wholeOf(w []byte) []byte { return w[:cap(w)] }

// guarded is w in greater memory, so that what is written behind it is seen, too.
func guarded(w []byte) []byte {
	l := append(slices.Clone(w), 77, 77, 77)
	return l[:len(w)]
}

func TestArgumentsAreNotWrittenTo(t *testing.T) {
	for _, g := range sorts() {
		g.w = guarded(g.w)
		was := slices.Clone(wholeOf(g.w))
		said(g)
		if !slices.Equal(wholeOf(g.w), was) {
			t.Fatalf("%q by %d: written to: %q", was, g.n, wholeOf(g.w))
		}
	}
}

// What is told is what was there when it was asked for: whether it is changed ahead of a range, within one, or behind one.
func TestAllTellsWhatWasThere(t *testing.T) {
	c := chance(42)
	for size := range 30 {
		for n := 1; n <= size; n++ {
			w := guarded(c.text(size))
			want := windowsOf(w, n)
			all := spin.All(w, n)
			for range 2 {
				for k := range wholeOf(w) {
					wholeOf(w)[k]++
				}
				var l []window
				for at, z := range all {
					l = append(l, window{at, z})
					w[(at+n)%size] += 3
				}
				if !slices.Equal(l, want) {
					t.Fatalf("%q by %d: %v, not %v", w, n, l, want)
				}
			}
		}
	}
}

// R4

func TestNilAndEmptyLists(t *testing.T) {
	if spin.Of(nil) != spin.Of([]byte{}) {
		t.Error("Of")
	}
	for _, n := range append([]int{1, 2}, far...) {
		if l, k := collect(nil, n), collect([]byte{}, n); l != nil || k != nil {
			t.Error(n, l, k)
		}
	}
}

// R5: no call has an object; the fingerprint that no call made is that of no bytes.
func TestZeroValues(t *testing.T) {
	var z complex128
	if spin.Of(nil) != z || spin.Turn(z, 3) != z || spin.Join(z, 0, z) != z || spin.Word(z) != 0 {
		t.Error("not that of no bytes")
	}
	if z := spin.Roll(z, 1, 0, 0); z != 0 {
		t.Error(z)
	}
}

// R6

func TestSameCallsAnswerTheSame(t *testing.T) {
	for _, g := range sorts() {
		was := said(g)
		g.w = slices.Clone(g.w)
		if is := said(g); is != was {
			t.Fatalf("%s, and then %s", was, is)
		}
	}
}

// R7: a number whose nought has a sign is the same as without, to all calls.
func TestTheSignOfANought(t *testing.T) {
	below := math.Copysign(0, -1)
	for _, x := range []float64{0, below, 1, -3, 1<<40 - 1} {
		for _, pair := range [][2]complex128{{complex(below, x), complex(0, x)}, {complex(x, below), complex(x, 0)}} {
			for n := -5; n <= 5; n++ {
				if spin.Turn(pair[0], n) != spin.Turn(pair[1], n) {
					t.Error(pair, n)
				}
			}
			for n := range 6 {
				if spin.Join(pair[0], n, 1+2i) != spin.Join(pair[1], n, 1+2i) || spin.Join(1+2i, n, pair[0]) != spin.Join(1+2i, n, pair[1]) {
					t.Error(pair, n)
				}
			}
			if spin.Roll(pair[0], 3, 18, 86) != spin.Roll(pair[1], 3, 18, 86) || spin.Word(pair[0]) != spin.Word(pair[1]) {
				t.Error(pair)
			}
		}
	}
}
