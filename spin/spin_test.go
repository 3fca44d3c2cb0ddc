package spin_test

import (
	"fmt"
	"math"
	"strconv"
	"testing"

	"riddle/spin"
)

// P16.1 Gauss

func TestGaussOfAllBytes(t *testing.T) {
	for n := range 256 {
		digits := fmt.Sprintf("%02x", n)
		upper, _ := strconv.ParseInt(digits[:1], 16, 0)
		lower, _ := strconv.ParseInt(digits[1:], 16, 0)
		isNumber(t, digits, spin.Gauss(byte(n)), whole{int(upper), int(lower)})
	}
}

func TestGaussByHand(t *testing.T) {
	for b, want := range map[byte]complex128{0: 0, 1: 1i, 15: 15i, 16: 1, 17: 1 + 1i, 18: 1 + 2i, 52: 3 + 4i, 86: 5 + 6i, 'a': 6 + 1i, 0xa5: 10 + 5i, 0x5a: 5 + 10i, 240: 15, 255: 15 + 15i} {
		if z := spin.Gauss(b); z != want {
			t.Errorf("%d: %v", b, z)
		}
	}
}

// P16.1 Turn

func TestTurnByHand(t *testing.T) {
	for _, x := range []struct {
		z        complex128
		quarters int
		want     complex128
	}{
		{2 + 3i, 0, 2 + 3i},
		{2 + 3i, 1, -3 + 2i},
		{2 + 3i, 2, -2 - 3i},
		{2 + 3i, 3, 3 - 2i},
		{2 + 3i, 4, 2 + 3i},
		{2 + 3i, 5, -3 + 2i},
		{2 + 3i, -1, 3 - 2i},
		{2 + 3i, -2, -2 - 3i},
		{2 + 3i, -3, -3 + 2i},
		{2 + 3i, -4, 2 + 3i},
		{2 + 3i, -5, 3 - 2i},
		{3 + 4i, 1, -4 + 3i},
		{1, 1, 1i},
		{1i, 1, -1},
		{-1, 1, -1i},
		{-1i, 1, 1},
		{1i, -1, 1},
		{1, -1, -1i},
		{0, 1, 0},
		{0, -3, 0},
		// The least int is a number that 4 divides, and the greatest is one below such.
		{2 + 3i, math.MinInt, 2 + 3i},
		{2 + 3i, math.MinInt + 1, -3 + 2i},
		{2 + 3i, math.MinInt + 2, -2 - 3i},
		{2 + 3i, math.MinInt + 3, 3 - 2i},
		{2 + 3i, math.MaxInt, 3 - 2i},
		{2 + 3i, math.MaxInt - 1, -2 - 3i},
		{2 + 3i, math.MaxInt - 2, -3 + 2i},
		{2 + 3i, math.MaxInt - 3, 2 + 3i},
		{2 + 3i, 1 << 32, 2 + 3i},
		{2 + 3i, 1<<32 + 1, -3 + 2i},
		{2 + 3i, -1<<32 - 1, 3 - 2i},
	} {
		if z := spin.Turn(x.z, x.quarters); z != x.want {
			t.Errorf("%v by %d: %v, not %v", x.z, x.quarters, z, x.want)
		}
	}
}

func TestTurnOfAllSmall(t *testing.T) {
	for re := -5; re <= 5; re++ {
		for im := -5; im <= 5; im++ {
			a := whole{re, im}
			for quarters := -13; quarters <= 13; quarters++ {
				isNumber(t, fmt.Sprint(a, " by ", quarters), spin.Turn(a.z(), quarters), turned(a, quarters))
			}
		}
	}
}

// Parts just below 2^40, and such that have as many digits: no digit is lost.
func TestTurnOfGreatParts(t *testing.T) {
	const most = 1<<40 - 1
	parts := []int{most, -most, most - 1, 1 - most, 1, 0, -1, 0x5555555555, -0xaaaaaaaaab}
	for _, re := range parts {
		for _, im := range parts {
			a := whole{re, im}
			for _, quarters := range []int{-1001, -6, -5, -4, -3, -2, -1, 0, 1, 2, 3, 4, 5, 6, 1001} {
				isNumber(t, fmt.Sprint(a, " by ", quarters), spin.Turn(a.z(), quarters), turned(a, quarters))
			}
		}
	}
	c := chance(1)
	for range 20000 {
		a, quarters := c.whole(1<<40), c.part(20)
		isNumber(t, fmt.Sprint(a, " by ", quarters), spin.Turn(a.z(), quarters), turned(a, quarters))
	}
}

// A turn by as many quarters and four more is the same, and turns add up.
func TestTurnsAddUp(t *testing.T) {
	c := chance(2)
	for range 20000 {
		z, a, b := c.whole(1<<40).z(), c.part(1<<50), c.part(1<<50)
		if spin.Turn(spin.Turn(z, a), b) != spin.Turn(z, a+b) || spin.Turn(z, a+4) != spin.Turn(z, a) || spin.Turn(spin.Turn(z, a), -a) != z {
			t.Fatal(z, a, b)
		}
	}
	for _, quarters := range far {
		for more := -3; more <= 3; more++ {
			// The ints wrap round by a number that 4 divides.
			if z := spin.Turn(spin.Turn(2+3i, quarters), more); z != spin.Turn(2+3i, quarters+more) {
				t.Error(quarters, more, z)
			}
		}
	}
}

// P16.2 Of

func TestOfByHand(t *testing.T) {
	for _, x := range []struct {
		w    string
		want complex128
	}{
		{"", 0},
		{"\x00", 0},
		{"\x00\x00\x00\x00\x00", 0},
		{"\x12", 1 + 2i},
		{"\x12\x34", -3 + 5i},
		{"\x34\x56", -3 + 9i},
		{"\x12\x34\x56", -8 - 1i},
		{"\x12\x34\x56\x78", 0 - 8i},
		{"\x12\x34\x56\x78\x9a", 9 + 2i},
		{"\x00\x12", -2 + 1i},
		{"\x00\x00\x12", -1 - 2i},
		{"\x00\x00\x00\x12", 2 - 1i},
		{"\x00\x00\x00\x00\x12", 1 + 2i},
		{"\xff", 15 + 15i},
		{"\xff\xff", 30i},
		{"\xff\xff\xff", -15 + 15i},
		{"\xff\xff\xff\xff", 0},
		{"\xff\xff\xff\xff\xff", 15 + 15i},
		{"\xf0\x00\x00\x0f", 30},
		{"\x0f\xf0\x00\x00", 30i},
		{"\x00\x0f\xf0\x00", -30},
		{"\x00\x00\x0f\xf0", -30i},
		{"\xf0\x00\x00\x0f\xf0", 45},
	} {
		if z := spin.Of([]byte(x.w)); z != x.want {
			t.Errorf("%q: %v, not %v", x.w, z, x.want)
		}
	}
}

func TestOfNoByteAndOfOne(t *testing.T) {
	if spin.Of(nil) != 0 || spin.Of([]byte{}) != 0 {
		t.Error("of no bytes")
	}
	for n := range 256 {
		isNumber(t, fmt.Sprint(n), spin.Of([]byte{byte(n)}), gauss(byte(n)))
	}
}

func TestOfAllSmall(t *testing.T) {
	eachPair(func(a, b byte) { isNumber(t, fmt.Sprint(a, b), spin.Of([]byte{a, b}), of([]byte{a, b})) })
	eachText("\x00\xff\x3a\x80", 6, func(w []byte) { isNumber(t, fmt.Sprintf("%q", w), spin.Of(w), of(w)) })
	c := chance(3)
	for n := range 400 {
		w := c.text(n)
		isNumber(t, fmt.Sprintf("%q", w), spin.Of(w), of(w))
	}
}

func TestOfGreatTexts(t *testing.T) {
	for _, n := range []int{million - 2, million - 1, million} {
		for k, w := range great(n) {
			isNumber(t, fmt.Sprint(n, " bytes of ", k), spin.Of(w), of(w))
		}
	}
	// All that one part can be.
	for turn, want := range []complex128{15 * million / 2, 15i * million / 2, -15 * million / 2, -15i * million / 2} {
		if z := spin.Of(wide(million, (4-turn)%4)); z != want {
			t.Error(turn, z)
		}
	}
}

// It is the sum of the turns, as the package turns.
func TestOfIsTheSumOfTurns(t *testing.T) {
	c := chance(4)
	for n := range 300 {
		w := c.text(n)
		var sum complex128
		for k, b := range w {
			sum += spin.Turn(spin.Gauss(b), k)
		}
		if z := spin.Of(w); z != sum {
			t.Fatalf("%q: %v, not %v", w, z, sum)
		}
	}
}

// P16.2 Roll

func TestRollByHand(t *testing.T) {
	for _, x := range []struct {
		z       complex128
		n       int
		out, in byte
		want    complex128
	}{
		{-3 + 5i, 2, 18, 86, -3 + 9i},
		{1 + 2i, 1, 18, 52, 3 + 4i},
		{-8 - 1i, 3, 0x12, 0x78, -10 + 1i},
		{0, 1, 0, 0, 0},
		{0, 1, 0, 255, 15 + 15i},
		{15 + 15i, 1, 255, 0, 0},
		{15 + 15i, 1, 255, 255, 15 + 15i},
		{30i, 2, 255, 0, 15 + 15i},
		{0, 4, 255, 255, 0},
		{0, 4, 0, 255, 15 - 15i},
		{0, 5, 0, 255, 15 + 15i},
		{0, million, 0, 255, 15 - 15i},
	} {
		if z := spin.Roll(x.z, x.n, x.out, x.in); z != x.want {
			t.Errorf("%v of %d by %d, %d: %v, not %v", x.z, x.n, x.out, x.in, z, x.want)
		}
	}
}

// Of one byte it is the other one; of two, all first ones and all that come.
func TestRollOfAllPairs(t *testing.T) {
	eachPair(func(out, in byte) {
		isNumber(t, fmt.Sprint(out, in), spin.Roll(gauss(out).z(), 1, out, in), gauss(in))
		for _, stays := range []byte{0, 0x3a, 255} {
			was, is := []byte{out, stays}, []byte{stays, in}
			isNumber(t, fmt.Sprint(was, in), spin.Roll(of(was).z(), 2, out, in), of(is))
		}
	})
}

func TestRollOfAllSmall(t *testing.T) {
	eachText("\x00\xff\x3a", 6, func(w []byte) {
		if len(w) >= 2 {
			n := len(w) - 1
			isNumber(t, fmt.Sprintf("%q", w), spin.Roll(of(w[:n]).z(), n, w[0], w[n]), of(w[1:]))
		}
	})
}

func TestRollOfGreatWindows(t *testing.T) {
	for _, n := range []int{million - 3, million - 2, million - 1, million} {
		for k, w := range great(n + 1) {
			was := of(w[:n]).z()
			isNumber(t, fmt.Sprint(n, " bytes of ", k), spin.Roll(was, n, w[0], w[n]), of(w[1:]))
		}
	}
	w := someText(6, million+1)
	for _, out := range []byte{0, 255} {
		for _, in := range []byte{0, 255} {
			w[0], w[million] = out, in
			isNumber(t, fmt.Sprint(out, in), spin.Roll(of(w[:million]).z(), million, out, in), of(w[1:]))
		}
	}
}

// P16.2 Join

func TestJoinByHand(t *testing.T) {
	for _, x := range []struct {
		a    complex128
		n    int
		b    complex128
		want complex128
	}{
		{1 + 2i, 1, 3 + 4i, -3 + 5i},
		{-3 + 5i, 2, 5 + 6i, -8 - 1i},
		{-8 - 1i, 3, 7 + 8i, -8i},
		{-8i, 4, 9 + 10i, 9 + 2i},
		{0, 0, 9 + 10i, 9 + 10i},
		{9 + 10i, 1, 0, 9 + 10i},
		{0, 0, 0, 0},
		{0, 7, 1, -1i},
		{5, million, 1 + 1i, 6 + 1i},
		{5, million - 1, 1 + 1i, 6 - 1i},
	} {
		if z := spin.Join(x.a, x.n, x.b); z != x.want {
			t.Errorf("%v of %d and %v: %v, not %v", x.a, x.n, x.b, z, x.want)
		}
	}
}

// Each text parted wherever it may be, also with nothing on either side.
func TestJoinOfAllSmall(t *testing.T) {
	eachText("\x00\xff\x3a", 7, func(w []byte) {
		for cut := range len(w) + 1 {
			isNumber(t, fmt.Sprintf("%q at %d", w, cut), spin.Join(of(w[:cut]).z(), cut, of(w[cut:]).z()), of(w))
		}
	})
	c := chance(5)
	for n := range 150 {
		w := c.text(n)
		for cut := range n + 1 {
			isNumber(t, fmt.Sprintf("%q at %d", w, cut), spin.Join(of(w[:cut]).z(), cut, of(w[cut:]).z()), of(w))
		}
	}
}

func TestJoinOfGreatTexts(t *testing.T) {
	for _, n := range []int{million - 3, million - 2, million - 1, million} {
		for k, a := range great(n) {
			w := append(a, great(million)[k]...)
			isNumber(t, fmt.Sprint(n, " bytes of ", k), spin.Join(of(w[:n]).z(), n, of(w[n:]).z()), of(w))
		}
	}
}
