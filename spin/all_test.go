package spin_test

import (
	"fmt"
	"math"
	"slices"
	"testing"

	"riddle/spin"
)

// P16.3 All

func collect(w []byte, n int) []window {
	var l []window
	for at, z := range spin.All(w, n) {
		l = append(l, window{at, z})
	}
	return l
}

// isWindows fails unless just these windows are told, in their order; it answers how many there are.
func isWindows(t *testing.T, w []byte, n int) int {
	t.Helper()
	want := windowsOf(w, n)
	if l := collect(w, n); !slices.Equal(l, want) {
		t.Fatalf("%.60q by %d: %.400v, not %.400v", w, n, l, want)
	}
	return len(want)
}

func TestAllByHand(t *testing.T) {
	for _, x := range []struct {
		w    string
		n    int
		want []window
	}{
		{"\x12\x34\x56", 2, []window{{0, -3 + 5i}, {1, -3 + 9i}}},
		{"\x12\x34\x56", 1, []window{{0, 1 + 2i}, {1, 3 + 4i}, {2, 5 + 6i}}},
		{"\x12\x34\x56", 3, []window{{0, -8 - 1i}}},
		{"\x12\x34\x56", 4, nil},
		{"\x12\x34\x56", 0, nil},
		{"\x12\x34\x56\x78", 3, []window{{0, -8 - 1i}, {1, -10 + 1i}}},
		{"\x00\x00\x00", 2, []window{{0, 0}, {1, 0}}},
		{"\xff\x00\xff", 1, []window{{0, 15 + 15i}, {1, 0}, {2, 15 + 15i}}},
		{"", 0, nil},
		{"", 1, nil},
		{"\xff", 1, []window{{0, 15 + 15i}}},
	} {
		if l := collect([]byte(x.w), x.n); !slices.Equal(l, x.want) {
			t.Errorf("%q by %d: %v, not %v", x.w, x.n, l, x.want)
		}
	}
}

// Each number of bytes that there may be, and such as may not be.
func TestAllOfAllSmall(t *testing.T) {
	told := 0
	eachText("\x00\xff\x3a", 6, func(w []byte) {
		for n := -2; n <= len(w)+2; n++ {
			told += isWindows(t, w, n)
		}
	})
	c := chance(21)
	for size := range 60 {
		w := c.text(size)
		for n := -2; n <= len(w)+2; n++ {
			told += isWindows(t, w, n)
		}
	}
	if told < 40000 {
		t.Error(told)
	}
}

func TestAllOfNumbersElsewhere(t *testing.T) {
	for _, w := range [][]byte{nil, {}, []byte("a"), []byte("abcdef"), someText(22, 1000)} {
		for _, n := range append([]int{len(w) + 1, len(w) + 2}, far...) {
			for at, z := range spin.All(w, n) {
				t.Errorf("%.20q by %d: %d %v", w, n, at, z)
			}
		}
		if len(w) > 0 {
			isWindows(t, w, 1)
			isWindows(t, w, len(w))
		}
	}
}

// What w has behind its end is no part of it.
func TestAllOfAPart(t *testing.T) {
	w := []byte("abcdef")
	if l := collect(w[1:4], 3); !slices.Equal(l, []window{{0, of(w[1:4]).z()}}) {
		t.Error(l)
	}
	if l := collect(w[:2], 3); l != nil {
		t.Error(l)
	}
}

// Great windows, and many of them.
func TestAllOfGreatWindows(t *testing.T) {
	for k, w := range great(million + 5) {
		for _, n := range []int{million - 1, million, million + 5} {
			if told := isWindows(t, w, n); told != million+6-n {
				t.Error(k, n, told)
			}
		}
	}
	w := someText(23, million)
	for _, n := range []int{1, 2, 3, 4, 5, 16, million / 2} {
		told := 0
		for at, z := range spin.All(w, n) {
			// All that are small, and some of the others.
			if (n <= 16 || at%(million/32) < 2) && z != of(w[at:at+n]).z() || at != told {
				t.Fatal(n, at, z)
			}
			told++
		}
		if told != million-n+1 {
			t.Error(n, told)
		}
	}
}

// No more are told than are asked for, and a range begins anew.
func TestAllMayBeLeft(t *testing.T) {
	w := []byte("a text of some bytes")
	for _, n := range []int{1, 2, 5, len(w)} {
		all, want := spin.All(w, n), windowsOf(w, n)
		for most := range len(want) + 1 {
			for range 2 {
				var l []window
				all(func(at int, z complex128) bool {
					l = append(l, window{at, z})
					return len(l) <= most
				})
				if told := min(most+1, len(want)); !slices.Equal(l, want[:told]) {
					t.Fatal(n, most, l)
				}
			}
		}
	}
}

func TestAllInsideOfAll(t *testing.T) {
	w := []byte("abcdefgh")
	all, want := spin.All(w, 3), windowsOf(w, 3)
	for at, z := range all {
		var l []window
		for at, z := range all {
			l = append(l, window{at, z})
		}
		if !slices.Equal(l, want) || want[at] != (window{at, z}) {
			t.Error(at, z, l)
		}
	}
}

// P16.3 Word

func TestWordByHand(t *testing.T) {
	below := math.Copysign(0, -1)
	for _, x := range []struct {
		re, im float64
		want   uint64
	}{
		{0, 0, 0},
		{below, 0, 0},
		{0, below, 0},
		{below, below, 0},
		{below, 5, 5},
		{5, below, 5 << 32},
		{1, 0, 1 << 32},
		{0, 1, 1},
		{-1, 0, 0xffffffff_00000000},
		{0, -1, 0x00000000_ffffffff},
		{-1, -1, 0xffffffff_ffffffff},
		{1, -1, 0x00000001_ffffffff},
		{-3, 5, 0xfffffffd_00000005},
		{0x12345678, 0x7abcdef0, 0x12345678_7abcdef0},
		{-0x12345678, -2, 0xedcba988_fffffffe},
		// The least and the greatest part.
		{math.MinInt32, 0, 0x80000000_00000000},
		{0, math.MinInt32, 0x00000000_80000000},
		{math.MaxInt32, 0, 0x7fffffff_00000000},
		{0, math.MaxInt32, 0x00000000_7fffffff},
		{math.MinInt32, math.MaxInt32, 0x80000000_7fffffff},
		{math.MaxInt32, math.MinInt32, 0x7fffffff_80000000},
		{math.MinInt32, math.MinInt32, 0x80000000_80000000},
		{math.MaxInt32, math.MaxInt32, 0x7fffffff_7fffffff},
		// One above the least, and one below the greatest.
		{math.MinInt32 + 1, math.MaxInt32 - 1, 0x80000001_7ffffffe},
		{math.MaxInt32 - 1, math.MinInt32 + 1, 0x7ffffffe_80000001},
		// One below the least, and one above the greatest.
		{math.MinInt32 - 1, 0, 0},
		{math.MinInt32 - 1, 1, 0},
		{math.MaxInt32 + 1, 0, 0},
		{math.MaxInt32 + 1, 1, 0},
		{1, math.MinInt32 - 1, 0},
		{1, math.MaxInt32 + 1, 0},
		{math.MaxInt32 + 1, math.MinInt32 - 1, 0},
	} {
		if n := spin.Word(complex(x.re, x.im)); n != x.want {
			t.Errorf("%v, %v: %x, not %x", x.re, x.im, n, x.want)
		}
	}
}

// A part that may not be is enough, whatever the other one is.
func TestWordOfOddParts(t *testing.T) {
	for _, x := range odd {
		for _, y := range append([]float64{0, 1, -1, math.MinInt32, math.MaxInt32}, odd...) {
			if m, n := spin.Word(complex(x, y)), spin.Word(complex(y, x)); m != 0 || n != 0 {
				t.Errorf("%v, %v: %x, %x", x, y, m, n)
			}
		}
	}
}

// The number says both parts again.
func TestWordSaysThePartsAgain(t *testing.T) {
	again := func(a whole) {
		n := spin.Word(a.z())
		if b := (whole{int(int32(n >> 32)), int(int32(n))}); b != a {
			t.Fatalf("%v: %x, which is %v", a, n, b)
		}
	}
	for re := -40; re <= 40; re++ {
		for im := -40; im <= 40; im++ {
			again(whole{re, im})
		}
	}
	for bit := range 31 {
		for _, n := range []int{1 << bit, -1 << bit, 1<<bit - 1, 1 - 1<<bit} {
			again(whole{n, 0})
			again(whole{7, n})
			again(whole{n, -n})
		}
	}
	c := chance(24)
	for range 20000 {
		again(c.whole(1 << 31))
	}
}

// What is as close to a whole number as can be is none.
func TestWordOfNearlyWholeParts(t *testing.T) {
	c := chance(25)
	for range 5000 {
		x := float64(c.part(1 << 31))
		for _, to := range []float64{math.Inf(1), math.Inf(-1)} {
			y := math.Nextafter(x, to)
			if m, n := spin.Word(complex(y, 3)), spin.Word(complex(3, y)); m != 0 || n != 0 {
				t.Fatal(fmt.Sprint(y), m, n)
			}
		}
	}
}
