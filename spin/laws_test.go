package spin_test

import (
	"fmt"
	"maps"
	"testing"

	"riddle/spin"
)

// P16.4

// rolled fails unless what is rolled through w, by windows of n bytes, is each time what Of answers.
func rolled(t *testing.T, w []byte, n int) {
	t.Helper()
	z := spin.Of(w[:n])
	for at := range len(w) - n {
		z = spin.Roll(z, n, w[at], w[at+n])
		if want := spin.Of(w[at+1 : at+1+n]); z != want {
			t.Fatalf("%.60q by %d, at %d: %v, not %v", w, n, at, z, want)
		}
	}
}

func TestRolled(t *testing.T) {
	eachText("\x00\xff\x3a", 6, func(w []byte) {
		for n := 1; n <= len(w); n++ {
			rolled(t, w, n)
		}
	})
	c := chance(31)
	for n := 1; n <= 80; n++ {
		rolled(t, c.text(n+300), n)
	}
	for _, n := range []int{1000, 1001, 1002, 1003} {
		rolled(t, c.text(n+2000), n)
	}
	for _, w := range great(million + 9) {
		rolled(t, w, million)
	}
}

// However far it rolls nothing is lost.
func TestRolledFar(t *testing.T) {
	for k, w := range great(million) {
		for _, n := range []int{1, 2, 3, 1000} {
			z := spin.Of(w[:n])
			for at := range len(w) - n {
				z = spin.Roll(z, n, w[at], w[at+n])
			}
			if want := spin.Of(w[len(w)-n:]); z != want {
				t.Error(k, n, z, want)
			}
		}
	}
}

// What All tells is Of of each window.
func TestAllIsOfOfEach(t *testing.T) {
	c := chance(32)
	for n := 1; n <= 50; n++ {
		w := c.text(n + 100)
		for at, z := range spin.All(w, n) {
			if want := spin.Of(w[at : at+n]); z != want {
				t.Fatalf("%q by %d, at %d: %v, not %v", w, n, at, z, want)
			}
		}
	}
}

// P16.5

// associative fails unless three texts are joined to the same from either side, which is Of of all three.
func associative(t *testing.T, a, b, c []byte) {
	t.Helper()
	x, y, z := spin.Of(a), spin.Of(b), spin.Of(c)
	left := spin.Join(spin.Join(x, len(a), y), len(a)+len(b), z)
	right := spin.Join(x, len(a), spin.Join(y, len(b), z))
	all := append(append(append([]byte{}, a...), b...), c...)
	if left != right || left != spin.Of(all) {
		t.Fatalf("%.40q, %.40q, %.40q: %v, %v, %v", a, b, c, left, right, spin.Of(all))
	}
}

func TestJoinIsAssociative(t *testing.T) {
	c := chance(33)
	for n := range 20 {
		for m := range 20 {
			associative(t, c.text(n), c.text(m), c.text(c.below(20)))
		}
	}
	for range 2000 {
		associative(t, c.text(c.below(60)), c.text(c.below(60)), c.text(c.below(60)))
	}
	for _, n := range []int{million / 4, million/4 + 1, million/4 + 2, million/4 + 3} {
		for _, w := range great(n) {
			associative(t, w, w[1:], w[2:])
		}
	}
	// And of whatever whole numbers are handed in.
	for range 20000 {
		x, y, z := c.whole(1<<38).z(), c.whole(1<<38).z(), c.whole(1<<38).z()
		n, m := c.below(million/2), c.below(million/2)
		if left, right := spin.Join(spin.Join(x, n, y), n+m, z), spin.Join(x, n, spin.Join(y, m, z)); left != right {
			t.Fatal(x, n, y, m, z, left, right)
		}
	}
}

func TestOfOfATextAndItsParts(t *testing.T) {
	c := chance(34)
	for n := range 200 {
		w := c.text(n)
		for cut := range n + 1 {
			if z := spin.Join(spin.Of(w[:cut]), cut, spin.Of(w[cut:])); z != spin.Of(w) {
				t.Fatalf("%q at %d: %v", w, cut, z)
			}
		}
	}
	// Byte by byte.
	w := c.text(5000)
	var z complex128
	for k, b := range w {
		z = spin.Join(z, k, spin.Gauss(b))
	}
	if z != spin.Of(w) {
		t.Error(z)
	}
}

// Nothing on either side changes nothing.
func TestJoinOfNoText(t *testing.T) {
	c := chance(35)
	for n := range 100 {
		z := spin.Of(c.text(n))
		if spin.Join(spin.Of(nil), 0, z) != z || spin.Join(z, n, spin.Of(nil)) != z {
			t.Fatal(n, z)
		}
	}
}

// Behind a number of bytes that 4 divides it is just the sum; behind another one it is not.
func TestJoinIsTheSum(t *testing.T) {
	c := chance(36)
	others := 0
	for n := range 400 {
		a, b := spin.Of(c.text(n)), spin.Of(c.text(1+c.below(50)))
		sum := spin.Join(a, n, b) == a+b
		if n%4 == 0 && !sum {
			t.Fatal(n, a, b)
		}
		if n%4 != 0 && !sum {
			others++
		}
	}
	if others < 250 {
		t.Error(others)
	}
	for _, w := range great(million) {
		if z := spin.Of(w); spin.Join(z, million, z) != z+z {
			t.Error(z)
		}
	}
}

// P16.6

// The same bytes have one fingerprint, wherever they stand in memory: those whose fingerprints differ are unlike.
func TestUnlikeFingerprintsOfUnlikeTexts(t *testing.T) {
	c := chance(37)
	differ, same := 0, 0
	for range 20000 {
		n := c.below(5)
		v, w := make([]byte, n), make([]byte, n)
		for k := range n {
			v[k], w[k] = "\x00\x01\xff"[c.below(3)], "\x00\x01\xff"[c.below(3)]
		}
		unlike := string(v) != string(w)
		if spin.Of(v) != spin.Of(w) && !unlike {
			t.Fatalf("%q, %q", v, w)
		}
		if unlike {
			differ++
		} else {
			same++
		}
	}
	if differ < 5000 || same < 2000 {
		t.Error(differ, same)
	}
}

func TestNoTwoBytesHaveOneFingerprint(t *testing.T) {
	eachPair(func(a, b byte) {
		if same := spin.Of([]byte{a}) == spin.Of([]byte{b}); same != (a == b) {
			t.Fatal(a, b)
		}
		if same := spin.Gauss(a) == spin.Gauss(b); same != (a == b) {
			t.Fatal(a, b)
		}
	})
}

// wordsDiffer fails unless the Words of unlike fingerprints are unlike; it answers how many fingerprints there are.
func wordsDiffer(t *testing.T, prints []complex128) int {
	t.Helper()
	words := map[uint64]complex128{}
	all := map[complex128]bool{}
	for _, z := range prints {
		n := spin.Word(z)
		if was, is := words[n]; is && was != z {
			t.Fatalf("%v and %v: %x", was, z, n)
		}
		words[n] = z
		all[z] = true
	}
	return len(all)
}

func TestWordsDifferWhereFingerprintsDo(t *testing.T) {
	var l []complex128
	eachPair(func(a, b byte) { l = append(l, spin.Of([]byte{a, b})) })
	// All pairs of parts of two bytes, with or without a sign.
	if n := wordsDiffer(t, l); n != 31*31 {
		t.Error(n)
	}
	c := chance(38)
	for n := range 3000 {
		l = append(l, spin.Of(c.text(n)))
	}
	for n := million - 8; n <= million; n++ {
		for _, w := range great(n) {
			l = append(l, spin.Of(w))
		}
	}
	if n := wordsDiffer(t, l); n < 3500 {
		t.Error(n)
	}
}

// Such as differ in one part by one, as great as may be.
func TestWordsOfTheGreatest(t *testing.T) {
	const most = 15 * million
	var l []complex128
	for _, re := range []int{-most, 1 - most, -2, -1, 0, 1, 2, most - 1, most} {
		for _, im := range []int{-most, 1 - most, -2, -1, 0, 1, 2, most - 1, most} {
			l = append(l, whole{re, im}.z())
		}
	}
	if n := wordsDiffer(t, l); n != 81 {
		t.Error(n)
	}
	for _, z := range l {
		// 0 is the Word of 0 alone, so that none of them is taken for one that has no Word.
		if z != 0 && spin.Word(z) == 0 {
			t.Error(z)
		}
	}
}

// P16.7

func size(x float64) float64 { return max(x, -x) }

func noWider(t *testing.T, w []byte) {
	t.Helper()
	if z, most := spin.Of(w), float64(15*len(w)); size(real(z)) > most || size(imag(z)) > most {
		t.Fatalf("%d bytes %.60q: %v", len(w), w, z)
	}
}

func TestNoWider(t *testing.T) {
	noWider(t, nil)
	eachPair(func(a, b byte) {
		noWider(t, []byte{a})
		noWider(t, []byte{a, b})
	})
	eachText("\x00\x0f\xf0\xff", 6, func(w []byte) { noWider(t, w) })
	c := chance(39)
	for n := range 1000 {
		noWider(t, c.text(n))
		for turn := range 4 {
			noWider(t, wide(n, turn))
		}
	}
	for _, w := range great(million) {
		noWider(t, w)
	}
}

// A single byte may be as wide as that.
func TestAsWideAsThat(t *testing.T) {
	widest := map[string]float64{}
	for n := range 256 {
		for k := range 4 {
			z := spin.Turn(spin.Of([]byte{byte(n)}), k)
			widest["re"], widest["im"] = max(widest["re"], real(z)), max(widest["im"], imag(z))
			widest["-re"], widest["-im"] = max(widest["-re"], -real(z)), max(widest["-im"], -imag(z))
		}
	}
	if !maps.Equal(widest, map[string]float64{"re": 15, "im": 15, "-re": 15, "-im": 15}) {
		t.Error(fmt.Sprint(widest))
	}
}
