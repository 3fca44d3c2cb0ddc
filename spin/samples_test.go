package spin_test

import (
	"math"
	"slices"
	"testing"
)

// What the tests hold the package against is made here without a call of the package, in whole numbers.

// whole is a complex number of whole parts.
type whole struct{ re, im int }

func (a whole) plus(b whole) whole { return whole{a.re + b.re, a.im + b.im} }

func (a whole) times(b whole) whole {
	return whole{a.re*b.re - a.im*b.im, a.re*b.im + a.im*b.re}
}

func (a whole) z() complex128 { return complex(float64(a.re), float64(a.im)) }

// often is the number times another one, so often, one by one.
func (a whole) often(unit whole, n int) whole {
	for range n {
		a = a.times(unit)
	}
	return a
}

var quarter, back = whole{0, 1}, whole{0, -1}

// turned takes the chapter's words as they stand, of few quarters.
func turned(a whole, quarters int) whole {
	if quarters < 0 {
		return a.often(back, -quarters)
	}
	return a.often(quarter, quarters)
}

func gauss(b byte) whole { return whole{int(b) >> 4, int(b) & 15} }

// of takes the chapter's words as they stand: i as often as the place says, made from place to place.
func of(w []byte) whole {
	sum, unit := whole{}, whole{1, 0}
	for _, b := range w {
		sum = sum.plus(gauss(b).times(unit))
		unit = unit.times(quarter)
	}
	return sum
}

// isNumber fails unless z is a; 0 and 0 below 0 are the same.
func isNumber(t *testing.T, what string, z complex128, a whole) {
	t.Helper()
	if z != a.z() {
		t.Fatalf("%s: %v, not %v", what, z, a.z())
	}
}

// window is what All tells of one.
type window struct {
	at int
	z  complex128
}

// windowsOf takes the chapter's words as they stand.
func windowsOf(w []byte, n int) []window {
	var l []window
	for at := range w {
		if n >= 1 && n <= len(w)-at {
			l = append(l, window{at, of(w[at : at+n]).z()})
		}
	}
	return l
}

// Texts

// million is the greatest number of bytes of a window.
const million = 1 << 20

// great are texts of so many bytes: of one byte, of such as make a part as wide as can be, and of any.
func great(n int) [][]byte {
	l := [][]byte{slices.Repeat([]byte{0}, n), slices.Repeat([]byte{255}, n), someText(11, n)}
	for turn := range 4 {
		l = append(l, wide(n, turn))
	}
	return l
}

// wide is a text of n bytes of which one part, or what it is below 0, is as great as can be.
func wide(n, turn int) []byte {
	w := make([]byte, n)
	for k := range w {
		// What a byte adds to the one part, by fours: its upper half, less its lower half, less its upper half, its lower half.
		w[k] = []byte{0xf0, 0, 0, 0x0f}[(k+turn)%4]
	}
	return w
}

// eachText goes through all texts of these bytes, up to so many of them.
func eachText(of string, most int, f func(w []byte)) {
	texts := [][]byte{nil}
	for range most + 1 {
		var longer [][]byte
		for _, w := range texts {
			f(w)
			for i := range len(of) {
				longer = append(longer, append(slices.Clone(w), of[i]))
			}
		}
		texts = longer
	}
}

// eachPair goes through all texts of two bytes.
func eachPair(f func(a, b byte)) {
	for n := range 1 << 16 {
		f(byte(n>>8), byte(n))
	}
}

// chance makes numbers of no order, always the same ones.
type chance uint64

func (c *chance) next() uint64 {
	*c = *c*6364136223846793005 + 1442695040888963407
	x := uint64(*c)
	return x ^ x>>33
}

func (c *chance) below(n int) int { return int((c.next() >> 8) % uint64(n)) }

func (c *chance) byte() byte { return byte(c.next() >> 16) }

// text is of just so many bytes.
func (c *chance) text(n int) []byte {
	w := make([]byte, n)
	for i := range w {
		w[i] = c.byte()
	}
	return w
}

func someText(seed chance, n int) []byte { return seed.text(n) }

// part is a whole number below most, without its sign.
func (c *chance) part(most int) int { return c.below(2*most-1) - most + 1 }

func (c *chance) whole(most int) whole { return whole{c.part(most), c.part(most)} }

// Numbers at the edges

// far are numbers of quarters and of bytes that are elsewhere.
var far = []int{math.MinInt, math.MinInt + 1, -1 << 40, -1000, -2, -1, 0, 1 << 21, 1 << 40, math.MaxInt - 1, math.MaxInt}

// odd are parts that are not whole, too great for a fingerprint, or no numbers at all.
var odd = []float64{0.5, -0.5, 1e-300, -1e-300, math.SmallestNonzeroFloat64, 1 - 1.0/(1<<53), 3.0000000001, -7.25, 1<<31 - 0.5, -1<<31 - 0.5, -1<<31 + 0.5, 1<<31 - 1.0/(1<<21), 1 << 31, 1<<31 + 1, -1<<31 - 1, -1<<31 - 2, 1 << 32, 1<<32 + 1, -1 << 32, 1 << 40, 1 << 53, 1 << 62, 1 << 63, -1 << 63, 1 << 64, -1 << 64, 1e300, -1e300, math.MaxFloat64, -math.MaxFloat64, math.Inf(1), math.Inf(-1), math.NaN()}
