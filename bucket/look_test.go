package bucket_test

import (
	"math"
	"slices"
	"testing"

	"riddle/api"
	"riddle/bucket"
)

// P17.2 Look

func isLook(t *testing.T, m api.Masks, w []byte) {
	t.Helper()
	if x, want := bucket.Look(m, w...), lookOf(m, w); x != want {
		t.Fatalf("%q: %08b, not %08b, of %v", w, x, want, m)
	}
}

func TestLookByHand(t *testing.T) {
	m := made(t, lits("abc", "~xy", "qrst", "ap", "~z~z~z")...)
	for _, x := range []struct {
		w    string
		want byte
	}{
		{"", 255},
		{"a", 1 + 8},
		// The low nibble of A, Q and a is 1, the high ones are others.
		{"A", 0},
		{"Q", 0},
		{"x", 2},
		{"X", 2},
		{"Z", 16},
		{"z", 16},
		{"ab", 1},
		{"ap", 8},
		{"xy", 2},
		{"Xy", 2},
		{"XY", 0},
		{"abc", 1},
		{"abd", 0},
		{"abcd", 1},
		{"xy\x00", 2},
		{"xy\xff", 2},
		{"apx", 8},
		{"qrs", 4},
		// The fourth byte is not looked at.
		{"qrst", 4},
		{"qrsq", 4},
		{"qrs\x00\xff", 4},
		{"qr", 4},
		{"qs", 0},
		{"zZz", 16},
		{"zZy", 0},
		{"\x00", 0},
		{"\xff\xff\xff", 0},
	} {
		if b := bucket.Look(m, []byte(x.w)...); b != x.want {
			t.Errorf("%q: %d, not %d", x.w, b, x.want)
		}
	}
	if b := bucket.Look(m); b != 255 {
		t.Error(b)
	}
	if b := bucket.Look(m, 'q', 'r', 's'); b != 4 {
		t.Error(b)
	}
}

// One nibble of one literal and the other one of another: the masks cannot tell that.
func TestLookOfNibblesOfTwo(t *testing.T) {
	l := slices.Repeat(lits("ab"), 9)
	l[8] = lit("pr")
	m := made(t, l...)
	for w, want := range map[string]byte{"ab": 255, "pr": 1, "ar": 1, "pb": 1, "qb": 1, "`b": 1, "qr": 1, "`r": 1, "1b": 0, "a2": 0, "bb": 0} {
		if b := bucket.Look(m, []byte(w)...); b != want {
			t.Errorf("%q: %d, not %d", w, b, want)
		}
	}
}

// Each byte at each place, and masks of just one bit.
func TestLookOfEachByte(t *testing.T) {
	for n := range 256 {
		b := byte(n)
		for i := range 3 {
			for _, bit := range []byte{1, 128, 36} {
				m := all
				m.Lo[i], m.Hi[i] = one(bit, low(b)), every(255)
				for other := range 256 {
					w := []byte{7, 77, 177}
					w[i] = byte(other)
					want := byte(0)
					if low(w[i]) == low(b) {
						want = bit
					}
					m.Lo[i], m.Hi[i] = one(bit, low(b)), every(255)
					if x := bucket.Look(m, w...); x != want {
						t.Fatal(b, i, bit, other, x)
					}
					want = 0
					if high(w[i]) == high(b) {
						want = bit
					}
					m.Lo[i], m.Hi[i] = every(255), one(bit, high(b))
					if x := bucket.Look(m, w...); x != want {
						t.Fatal(b, i, bit, other, x)
					}
					// What is at the places behind the text is nothing.
					if x := bucket.Look(m, w[:i]...); x != 255 {
						t.Fatal(b, i, bit, other, x)
					}
				}
			}
		}
	}
}

func TestLookOfAnyMasks(t *testing.T) {
	c := chance(21)
	some := 0
	for i := range 20000 {
		m, w := c.masks(), c.text(6, alphabets[i%len(alphabets)])
		isLook(t, m, w)
		if x := bucket.Look(m, w...); x != 0 && x != 255 {
			some++
		}
	}
	if some < 5000 {
		t.Error(some)
	}
	eachText("aA\x00\xff", 4, func(w []byte) {
		isLook(t, api.Masks{}, w)
		isLook(t, all, w)
		isLook(t, made(t, lits("aA", "~a~a~a", "\xff\x00a")...), w)
	})
}

// Many is nothing to it, nor are great texts.
func TestLookElsewhere(t *testing.T) {
	m := made(t, lits("abc", "xy")...)
	w := append([]byte("abc"), make([]byte, 1<<20)...)
	if x := bucket.Look(m, w...); x != 1 {
		t.Error(x)
	}
	for _, many := range append([]int{0, 1, 2, 256, 257}, far...) {
		m.Many = many
		if bucket.Look(m) != 255 || bucket.Look(m, 'a') != 1 || bucket.Look(m, 'x', 'y', 'z') != 2 {
			t.Error(many)
		}
	}
}

// P17.2 Scan

func collect(m api.Masks, w []byte) []place {
	var l []place
	for at, buckets := range bucket.Scan(m, w) {
		l = append(l, place{at, buckets})
	}
	return l
}

// isScan fails unless just these places are told, in their order; it answers how many there are.
func isScan(t *testing.T, m api.Masks, w []byte) int {
	t.Helper()
	want := placesOf(m, w)
	if l := collect(m, w); !slices.Equal(l, want) {
		t.Fatalf("%.60q: %.400v, not %.400v, of %v", w, l, want, m)
	}
	return len(want)
}

func TestScanByHand(t *testing.T) {
	m := made(t, lits("abc", "~xy", "qrst")...)
	for _, x := range []struct {
		w    string
		want []place
	}{
		{"", nil},
		{"a", nil},
		{"x", nil},
		{"xy", []place{{0, 2}}},
		{"xyX", []place{{0, 2}}},
		{"xyXy", []place{{0, 2}, {2, 2}}},
		// At the end two bytes are enough, though a third one would be looked at.
		{"ab", []place{{0, 1}}},
		{"abc", []place{{0, 1}}},
		{"abd", nil},
		{"..ab", []place{{2, 1}}},
		{"..ab.", nil},
		{"..a", nil},
		{"abcab", []place{{0, 1}, {3, 1}}},
		{"qrsxyabqrsqr", []place{{0, 4}, {3, 2}, {7, 4}, {10, 4}}},
	} {
		if l := collect(m, []byte(x.w)); !slices.Equal(l, x.want) {
			t.Errorf("%q: %v, not %v", x.w, l, x.want)
		}
	}
}

// The chapter's own example.
func TestScanOfTheExample(t *testing.T) {
	if l := collect(made(t, lit("ab")), []byte("xab")); !slices.Equal(l, []place{{1, 1}}) {
		t.Error(l)
	}
}

// Places that overlap, and such as have many buckets.
func TestScanOfManyBuckets(t *testing.T) {
	m := made(t, lits("aa", "aaa", "~aa", "ab", "a~b", "ba", "aab", "zz")...)
	want := []place{{0, 1 + 2 + 4}, {1, 1 + 4 + 64}, {2, 8 + 16}, {3, 32}}
	if l := collect(m, []byte("aaaba")); !slices.Equal(l, want) {
		t.Error(l)
	}
	if l := collect(m, []byte("Aab")); !slices.Equal(l, []place{{0, 4}, {1, 8 + 16}}) {
		t.Error(l)
	}
}

func TestScanOfAllSmall(t *testing.T) {
	told := 0
	for _, l := range [][]api.Literal{nil, lits("aa"), lits("ab", "~b~a"), lits("~aba", "b~bb", "BA"), lits("aab", "abb", "baa", "bbb", "aa", "bb", "~b~b", "Ba", "~aaa", "bbba")} {
		m := made(t, l...)
		eachText("abA", 6, func(w []byte) { told += isScan(t, m, w) })
		eachText("aB", 8, func(w []byte) { told += isScan(t, m, w) })
	}
	if told < 8000 {
		t.Error(told)
	}
}

func TestScanOfAnyMasks(t *testing.T) {
	c := chance(22)
	told := 0
	for i := range 5000 {
		told += isScan(t, c.masks(), c.text(40, alphabets[i%len(alphabets)]))
	}
	if told < 20000 {
		t.Error(told)
	}
}

// Masks that have something in one of their halves, or at one of the letters, alone.
func TestScanOfMasksWithHoles(t *testing.T) {
	c := chance(23)
	some := 0
	for holes := range 64 {
		m := all
		for i := range 3 {
			if holes>>i&1 != 0 {
				m.Lo[i] = [16]byte{}
			}
			if holes>>(3+i)&1 != 0 {
				m.Hi[i] = [16]byte{}
			}
		}
		for range 20 {
			w := c.text(6, "")
			some += isScan(t, m, w)
			isLook(t, m, w)
		}
	}
	// Where the third letter alone has nothing, the last two bytes are told all the same.
	if some < 60 {
		t.Error(some)
	}
	for b := range 256 {
		for i := range 3 {
			m := all
			m.Lo, m.Hi = [3][16]byte{}, [3][16]byte{}
			m.Lo[i][low(byte(b))] = 1
			m.Hi[i][high(byte(b))] = 1
			if l := collect(m, []byte{byte(b), byte(b), byte(b)}); l != nil {
				t.Error(b, i, l)
			}
		}
	}
}

// Of all bits each place is told but the last one with a byte behind it, and the end.
func TestScanOfAllBits(t *testing.T) {
	for n := range 300 {
		var want []place
		for at := 0; at+2 <= n; at++ {
			want = append(want, place{at, 255})
		}
		if l := collect(all, make([]byte, n)); !slices.Equal(l, want) {
			t.Fatal(n, l)
		}
	}
}

// What w has behind its end is no part of it.
func TestScanOfAPart(t *testing.T) {
	m, w := made(t, lits("abc", "bcd")...), []byte("xabcd")
	for _, x := range []struct {
		from, to int
		want     []place
	}{{0, 5, []place{{1, 1}, {2, 2}}}, {0, 4, []place{{1, 1}, {2, 2}}}, {0, 3, []place{{1, 1}}}, {0, 2, nil}, {1, 3, []place{{0, 1}}}, {2, 3, nil}, {2, 4, []place{{0, 2}}}, {2, 2, nil}} {
		if l := collect(m, w[x.from:x.to]); !slices.Equal(l, x.want) {
			t.Error(x, l)
		}
	}
}

// Many is nothing to it.
func TestScanOfAnyMany(t *testing.T) {
	m, w := made(t, lits("abc", "xy")...), []byte("abcxy")
	want := []place{{0, 1}, {3, 2}}
	for _, many := range append([]int{0, 1, 2, 256, 257}, far...) {
		m.Many = many
		if l := collect(m, w); !slices.Equal(l, want) {
			t.Error(many, l)
		}
	}
}

// No more are told than are asked for, and a range begins anew.
func TestScanMayBeLeft(t *testing.T) {
	m, w := made(t, lits("ab", "ba", "aa")...), []byte("abaab..abba")
	told, want := bucket.Scan(m, w), placesOf(m, w)
	if len(want) != 6 {
		t.Fatal(want)
	}
	for most := range len(want) + 1 {
		for range 2 {
			var l []place
			told(func(at int, buckets byte) bool {
				l = append(l, place{at, buckets})
				return len(l) <= most
			})
			if !slices.Equal(l, want[:min(most+1, len(want))]) {
				t.Fatal(most, l)
			}
		}
	}
	for range told {
		var l []place
		for at, buckets := range told {
			l = append(l, place{at, buckets})
		}
		if !slices.Equal(l, want) {
			t.Error(l)
		}
	}
}

func TestScanOfALongText(t *testing.T) {
	c := chance(24)
	w := make([]byte, 1<<20)
	for i := range w {
		w[i] = "abcdefgh"[c.below(8)]
	}
	for _, l := range [][]api.Literal{nil, lits("zz"), lits("abc"), c.literals(256, 16, "abcdefgh"), c.literals(256, 2, "abcdefgh")} {
		m := made(t, l...)
		if told := isScan(t, m, w); (told > 0) != (len(l) > 0 && l[0][0].Byte != 'z') {
			t.Error(show(l...), told)
		}
	}
	if told := isScan(t, all, w); told != len(w)-1 {
		t.Error(told)
	}
}

// P17.2 Members

// isMembers fails unless just these numbers are told, in their order.
func isMembers(t *testing.T, m api.Masks, buckets byte, want []int) {
	t.Helper()
	if l := slices.Collect(bucket.Members(m, buckets)); !slices.Equal(l, want) {
		t.Fatalf("%d, %08b: %v, not %v", m.Many, buckets, l, want)
	}
}

func TestMembersByHand(t *testing.T) {
	for _, x := range []struct {
		many    int
		buckets byte
		want    []int
	}{
		{0, 255, nil},
		{1, 255, []int{0}},
		{1, 254, nil},
		{1, 1, []int{0}},
		{8, 128, []int{7}},
		{7, 128, nil},
		{9, 1, []int{0, 8}},
		{8, 1, []int{0}},
		{9, 2, []int{1}},
		{9, 1 + 128, []int{0, 7, 8}},
		{20, 2 + 8, []int{1, 3, 9, 11, 17, 19}},
		{20, 0, nil},
		{10, 255, []int{0, 1, 2, 3, 4, 5, 6, 7, 8, 9}},
		{-1, 255, nil},
		{-8, 255, nil},
		{math.MinInt, 255, nil},
	} {
		isMembers(t, api.Masks{Many: x.many}, x.buckets, x.want)
	}
}

func TestMembersOfEachNumber(t *testing.T) {
	for many := -3; many <= 256; many++ {
		for buckets := range 256 {
			if many < 30 || many > 250 || buckets%11 == many%11 {
				m := api.Masks{Many: many}
				isMembers(t, m, byte(buckets), membersOf(m, byte(buckets)))
			}
		}
	}
}

// Never more than there may be.
func TestMembersOfTooMany(t *testing.T) {
	for _, many := range []int{256, 257, 258, 264, 1000, 1 << 20, 1 << 40, math.MaxInt - 1, math.MaxInt} {
		for buckets := range 256 {
			isMembers(t, api.Masks{Many: many}, byte(buckets), membersOf(api.Masks{Many: 256}, byte(buckets)))
		}
	}
}

// What the masks tell of the letters is nothing to it.
func TestMembersOfAnyMasks(t *testing.T) {
	c := chance(25)
	for range 2000 {
		m, buckets := c.masks(), byte(c.next()>>16)
		isMembers(t, m, buckets, membersOf(m, buckets))
	}
}

// Of masks that were made: those in whose bucket the literal's number is.
func TestMembersOfMadeMasks(t *testing.T) {
	c := chance(26)
	for many := range 257 {
		m := made(t, c.literals(many, 4, "ab")...)
		for _, buckets := range []byte{0, 1, 129, 255, byte(c.next() >> 16)} {
			isMembers(t, m, buckets, membersOf(m, buckets))
			for k := range bucket.Members(m, buckets) {
				if k >= many || bucket.Of(k)&buckets == 0 {
					t.Fatal(many, buckets, k)
				}
			}
		}
	}
}

func TestMembersMayBeLeft(t *testing.T) {
	m := api.Masks{Many: 40}
	told, want := bucket.Members(m, 1+32), membersOf(m, 1+32)
	if len(want) != 10 {
		t.Fatal(want)
	}
	for most := range len(want) + 1 {
		for range 2 {
			var l []int
			told(func(k int) bool {
				l = append(l, k)
				return len(l) <= most
			})
			if !slices.Equal(l, want[:min(most+1, len(want))]) {
				t.Fatal(most, l)
			}
		}
	}
	for range told {
		if l := slices.Collect(told); !slices.Equal(l, want) {
			t.Error(l)
		}
	}
}
