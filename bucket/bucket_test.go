package bucket_test

import (
	"math"
	"slices"
	"testing"

	"riddle/api"
	"riddle/bucket"
)

// P17.1 Of

func TestOf(t *testing.T) {
	for k := range 2000 {
		if b := bucket.Of(k); b != bits[k%8] {
			t.Errorf("%d: %d", k, b)
		}
	}
	for k, want := range map[int]byte{-1: 0, -2: 0, -7: 0, -8: 0, -9: 0, -256: 0, math.MinInt: 0, math.MinInt + 1: 0, math.MinInt + 3: 0, 7: 128, 8: 1, 255: 128, 256: 1, 257: 2, 1 << 40: 1, 1<<40 + 3: 8, math.MaxInt: 128, math.MaxInt - 1: 64, math.MaxInt - 7: 1} {
		if b := bucket.Of(k); b != want {
			t.Errorf("%d: %d, not %d", k, b, want)
		}
	}
}

// P17.1 Make

// made are the masks of literals that may be.
func made(t *testing.T, l ...api.Literal) api.Masks {
	t.Helper()
	m, e := bucket.Make(l...)
	if e != api.OK || m.Many != len(l) {
		t.Fatalf("%s: %d, of %d", show(l...), e, m.Many)
	}
	return m
}

// isMade fails unless Make answers what the chapter's words do.
func isMade(t *testing.T, l ...api.Literal) {
	t.Helper()
	want, err := api.Masks{}, errorOf(l)
	if err == api.OK {
		want = masksOf(l)
	}
	if m, e := bucket.Make(l...); m != want || e != err {
		t.Fatalf("%d literals, %s: %v %d, not %v %d", len(l), show(l...), m, e, want, err)
	}
}

// one is a row with these nibbles alone.
func one(bit byte, nibbles ...int) [16]byte {
	var r [16]byte
	for _, x := range nibbles {
		r[x] |= bit
	}
	return r
}

func every(bit byte) [16]byte { return one(bit, 0, 1, 2, 3, 4, 5, 6, 7, 8, 9, 10, 11, 12, 13, 14, 15) }

func TestMakeByHand(t *testing.T) {
	for _, x := range []struct {
		l      []string
		lo, hi [3][16]byte
	}{
		{},
		{[]string{"ab"}, [3][16]byte{one(1, 1), one(1, 2), every(1)}, [3][16]byte{one(1, 6), one(1, 6), every(1)}},
		{[]string{"a~b"}, [3][16]byte{one(1, 1), one(1, 2), every(1)}, [3][16]byte{one(1, 6), one(1, 4, 6), every(1)}},
		{[]string{"~z1"}, [3][16]byte{one(1, 10), one(1, 1), every(1)}, [3][16]byte{one(1, 5, 7), one(1, 3), every(1)}},
		{[]string{"\x00\xff\x5a"}, [3][16]byte{one(1, 0), one(1, 15), one(1, 10)}, [3][16]byte{one(1, 0), one(1, 15), one(1, 5)}},
		// What is behind the third letter is nothing.
		{[]string{"ABC~d~e~f"}, [3][16]byte{one(1, 1), one(1, 2), one(1, 3)}, [3][16]byte{one(1, 4), one(1, 4), one(1, 4)}},
		// A bucket each.
		{[]string{"ab", "ap0"}, [3][16]byte{{1: 3}, {2: 1, 0: 2}, {0: 3, 1: 1, 2: 1, 3: 1, 4: 1, 5: 1, 6: 1, 7: 1, 8: 1, 9: 1, 10: 1, 11: 1, 12: 1, 13: 1, 14: 1, 15: 1}}, [3][16]byte{{6: 3}, {6: 1, 7: 2}, {3: 3, 0: 1, 1: 1, 2: 1, 4: 1, 5: 1, 6: 1, 7: 1, 8: 1, 9: 1, 10: 1, 11: 1, 12: 1, 13: 1, 14: 1, 15: 1}}},
		// The ninth one is in the bucket of the first one again.
		{
			[]string{"aaa", "bbb", "ccc", "ddd", "eee", "fff", "ggg", "hhh", "111"},
			[3][16]byte{{1: 1, 2: 2, 3: 4, 4: 8, 5: 16, 6: 32, 7: 64, 8: 128}, {1: 1, 2: 2, 3: 4, 4: 8, 5: 16, 6: 32, 7: 64, 8: 128}, {1: 1, 2: 2, 3: 4, 4: 8, 5: 16, 6: 32, 7: 64, 8: 128}},
			[3][16]byte{{6: 255, 3: 1}, {6: 255, 3: 1}, {6: 255, 3: 1}},
		},
	} {
		want := api.Masks{Lo: x.lo, Hi: x.hi, Many: len(x.l)}
		if m, e := bucket.Make(lits(x.l...)...); m != want || e != api.OK {
			t.Errorf("%q: %v %d, not %v", x.l, m, e, want)
		}
	}
}

// The chapter's own example.
func TestMakeOfTheExample(t *testing.T) {
	m := made(t, lit("ab"))
	if m.Lo[0][1] != 1 || m.Hi[0][6] != 1 {
		t.Error(m)
	}
	for x := range 16 {
		if m.Lo[2][x] != 1 || m.Hi[2][x] != 1 {
			t.Error(x, m)
		}
	}
}

// Each letter that may be, at each place, in each bucket.
func TestMakeOfEachLetter(t *testing.T) {
	for n := range 512 {
		letter := api.Letter{Byte: byte(n), Fold: n >= 256}
		for at := range 4 {
			l := lit("xy7w")
			l[at] = letter
			isMade(t, l)
			isMade(t, slices.Concat(lits("ab", "\x80\x7f!")[:at/2], []api.Literal{l[:max(at+1, 2)]})...)
		}
		others := slices.Repeat(lits("ab"), n%8)
		isMade(t, append(others, api.Literal{letter, letter})...)
	}
}

func TestMakeOfAllSmall(t *testing.T) {
	var some []api.Literal
	eachLiteral(lit("a~aA1~q"), 4, func(l api.Literal) {
		isMade(t, l)
		if len(l) < 4 {
			some = append(some, l)
		}
	})
	for i, a := range some {
		for _, b := range some[i%3:] {
			isMade(t, a, b)
		}
	}
}

func TestMakeOfMany(t *testing.T) {
	c := chance(11)
	for i := range 1500 {
		many := []int{c.below(4), c.below(20), 250 + c.below(7)}[i%3]
		isMade(t, c.literals(many, 2+c.below(15), alphabets[i%len(alphabets)])...)
	}
}

// Literals are told apart by their order alone: each one is in the bucket that its number says.
func TestMakeByNumbers(t *testing.T) {
	for k := range 256 {
		l := slices.Repeat(lits("ab"), 256)
		l[k] = lit("\x73\x84\x95")
		m := made(t, l...)
		if m.Lo[0][3] != bits[k%8] || m.Hi[0][7] != bits[k%8] || m.Lo[1][4] != bits[k%8] || m.Hi[1][8] != bits[k%8] || m.Lo[2][5] != 255 {
			t.Fatal(k, m)
		}
	}
}

func TestMakeOfTheSameAgain(t *testing.T) {
	for _, s := range []string{"ab", "~a~bc", "\x00\xff"} {
		for many := range 17 {
			isMade(t, slices.Repeat(lits(s), many)...)
		}
	}
}

// As many literals as may be, and more.
func TestMakeOfTooMany(t *testing.T) {
	for _, s := range []string{"ab", "abcdefghijklmnop", "~z~y"} {
		for _, many := range []int{255, 256} {
			if m, e := bucket.Make(slices.Repeat(lits(s), many)...); e != api.OK || m.Many != many || m != masksOf(slices.Repeat(lits(s), many)) {
				t.Error(s, many, e)
			}
		}
		for _, many := range []int{257, 258, 1000, 1 << 16} {
			if m, e := bucket.Make(slices.Repeat(lits(s), many)...); e != api.ErrLong || m != (api.Masks{}) {
				t.Error(s, many, e, m)
			}
		}
	}
}

// wrong are literals that may not be.
var wrong = append(lits("", "a", "~a", "abcdefghijklmnopq", "~A~b", "a~[", "a~`", "~{a", "~@a", "a~1", "a~\x00", "ab~\xff", "abcd~Z", "abcdefghijklmno~P"), nil, api.Literal{}, slices.Repeat(lit("a"), 1000))

func TestMakeOfWrongLiterals(t *testing.T) {
	for _, x := range wrong {
		for many := range 20 {
			l := slices.Repeat(lits("ab", "~cde"), many)
			for at := range len(l) + 1 {
				if m, e := bucket.Make(slices.Insert(slices.Clone(l), at, x)...); e != api.ErrLiteral || m != (api.Masks{}) {
					t.Fatal(show(x), many, at, e, m)
				}
			}
		}
		// Of too many that is said, whatever they are.
		l := slices.Repeat(lits("ab"), 256)
		for _, at := range []int{0, 100, 255, 256} {
			if m, e := bucket.Make(slices.Insert(slices.Clone(l), at, x)...); e != api.ErrLong || m != (api.Masks{}) {
				t.Error(show(x), at, e, m)
			}
			if m, e := bucket.Make(slices.Insert(slices.Clone(l[1:]), min(at, 255), x)...); e != api.ErrLiteral || m != (api.Masks{}) {
				t.Error(show(x), at, e, m)
			}
		}
		if _, e := bucket.Make(slices.Repeat([]api.Literal{x}, 257)...); e != api.ErrLong {
			t.Error(show(x), e)
		}
	}
}

// The edges of what a literal may be.
func TestMakeOfTheLongestAndTheShortest(t *testing.T) {
	for n := range 20 {
		for _, s := range []string{"a", "~a", "A", "\x00"} {
			isMade(t, slices.Repeat(lit(s), n))
			isMade(t, lit("ab"), slices.Repeat(lit(s), n))
		}
	}
	for b := range 256 {
		l := append(lit("ab"), api.Letter{Byte: byte(b), Fold: true})
		if _, e := bucket.Make(l); (e == api.OK) != isSmall(byte(b)) || e != api.OK && e != api.ErrLiteral {
			t.Error(b, e)
		}
	}
}
