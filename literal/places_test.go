package literal_test

import (
	"bytes"
	"regexp"
	"slices"
	"strings"
	"testing"

	"riddle/api"
	"riddle/literal"
)

// P15.2 Places

// isPlaces fails unless these places are told; it answers how many there are.
func isPlaces(t *testing.T, l api.Literal, w []byte, want []int) int {
	t.Helper()
	if got := slices.Collect(literal.Places(l, w)); !slices.Equal(got, want) {
		t.Fatalf("%.80s, %.80q: %.300v, not %.300v", show(l), w, got, want)
	}
	return len(want)
}

func TestPlacesByHand(t *testing.T) {
	for _, x := range []struct {
		l, w string
		want []int
	}{
		// Such as overlap themselves.
		{"aa", "aaaa", []int{0, 1, 2}},
		{"aba", "ababa", []int{0, 2}},
		{"aba", "abababxaba", []int{0, 2, 7}},
		{"abab", "abababab", []int{0, 2, 4}},
		{"~a~a", "aAaA", []int{0, 1, 2}},
		{"~ab~a", "abAbaBab", []int{0, 2}},
		{"aab", "aaab", []int{1}},
		{"aabaaa", "aabaabaaab", []int{3}},
		{"a~a", "aAaaA", []int{0, 2, 3}},
		{"~aa", "aAaaA", []int{1, 2}},
		{"A~a", "aAaAA", []int{1, 3}},
		{"~aA~a", "aAaAAa", []int{0, 2, 3}},
		// None, and more letters than bytes.
		{"", "", []int{0}},
		{"", "aba", []int{0, 1, 2, 3}},
		{"a", "", nil},
		{"ab", "a", nil},
		{"ab", "b", nil},
		{"ab", "aab", []int{1}},
		{"abc", "ab", nil},
		// At the beginning and at the end.
		{"ab", "ab..ab", []int{0, 4}},
		{"ab", ".ab.a", []int{1}},
		{"\xff\x00", "\xff\x00\xff\x00", []int{0, 2}},
		// With Fold and no letter: the byte alone.
		{"~A~1", "a1A1", []int{2}},
		{"~A~a", "AaAAaA", []int{0, 2, 3}},
		{"~[~`", "[`{@[`", []int{0, 4}},
	} {
		isPlaces(t, lit(x.l), []byte(x.w), x.want)
	}
}

func TestPlacesOfAllSmall(t *testing.T) {
	told := 0
	eachLiteral(lit("a~aA~A"), 4, func(l api.Literal) {
		eachText("aA", 6, func(w []byte) { told += isPlaces(t, l, w, placesOf(l, w)) })
	})
	eachLiteral(lit("ab~b"), 5, func(l api.Literal) {
		eachText("abB", 5, func(w []byte) { told += isPlaces(t, l, w, placesOf(l, w)) })
	})
	if told < 30000 {
		t.Error(told)
	}
}

// They are where At is true.
func TestPlacesAreWhereAtIs(t *testing.T) {
	c := chance(21)
	told := 0
	for i := range 6000 {
		of := []string{"a", "ab", "aA", "aAb", "\x00\xff", "[{@`", "abcAB"}[i%7]
		l, w := c.literal(4, of, i%3 > 0), c.text(30, of)
		var want []int
		for at := -1; at <= len(w)+1; at++ {
			if literal.At(l, w, at) {
				want = append(want, at)
			}
		}
		told += isPlaces(t, l, w, want)
	}
	if told < 10000 {
		t.Error(told)
	}
}

// Long ones, most of which overlap themselves or nearly so, in texts made of them.
func TestPlacesOfLongLiterals(t *testing.T) {
	c := chance(22)
	told := 0
	for i := range 1500 {
		of := []string{"a", "ab", "aA", "aAb", "\x00\xff"}[i%5]
		unit := c.literal(1+c.below(12), of, i%2 == 0)
		l := slices.Repeat(unit, c.below(20))
		l = append(l, unit[:c.below(len(unit)+1)]...)
		if len(l) > 0 && c.below(3) == 0 {
			l[c.below(len(l))].Fold = c.is()
		}
		var w []byte
		for range c.below(4) {
			w = append(w, c.text(3, of)...)
			for _, x := range slices.Concat(l, unit, unit) {
				w = append(w, takes(x)[c.below(len(takes(x)))])
			}
			w = w[:max(0, len(w)-c.below(9))]
		}
		told += isPlaces(t, l, w, placesOf(l, w))
	}
	if told < 4000 {
		t.Error(told)
	}
}

func TestPlacesOfGreatLiterals(t *testing.T) {
	w := bytes.Repeat([]byte("a"), 1<<16)
	w[len(w)-1] = 'b'
	for _, x := range []struct {
		unit, end string
		want      []int
	}{
		{"a", "b", []int{1<<15 - 1}},
		{"~a", "~b", []int{1<<15 - 1}},
		{"a", "~b", []int{1<<15 - 1}},
		{"~a", "A", nil},
		{"a", "A", nil},
	} {
		l := append(slices.Repeat(lit(x.unit), 1<<15), lit(x.end)...)
		isPlaces(t, l, w, x.want)
	}
	at := 0
	for place := range literal.Places(slices.Repeat(lit("~a"), 1<<15), w[:len(w)-1]) {
		if place != at {
			t.Fatal(place, at)
		}
		at++
	}
	if at != 1<<15 {
		t.Error(at)
	}
}

// Of letters without Fold it is what the library finds.
func TestPlacesAreTheLibrarys(t *testing.T) {
	c := chance(23)
	told := 0
	for range 2000 {
		l, w := c.literal(5, "ab", false), c.text(60, "abb")
		var plain []byte
		for _, x := range l {
			plain = append(plain, x.Byte)
		}
		var want []int
		for at := 0; at <= len(w); {
			k := bytes.Index(w[at:], plain)
			if k < 0 {
				break
			}
			want = append(want, at+k)
			at += k + 1
		}
		told += isPlaces(t, l, w, want)
	}
	if told < 10000 {
		t.Error(told)
	}
}

func TestPlacesAreTheLibrarysWithoutCase(t *testing.T) {
	c := chance(24)
	told := 0
	for range 300 {
		l, w := c.literal(5, "abq", true), c.text(40, "abqABQ")
		var of strings.Builder
		of.WriteString("^")
		for _, x := range l {
			of.WriteString("[" + string(takes(x)) + "]")
		}
		re := regexp.MustCompile(of.String())
		var want []int
		for at := range len(w) + 1 {
			if re.Match(w[at:]) {
				want = append(want, at)
			}
		}
		told += isPlaces(t, l, w, want)
	}
	if told < 1000 {
		t.Error(told)
	}
}

// Of which no more are asked for.
func TestPlacesAreLeft(t *testing.T) {
	for _, x := range []struct{ l, w string }{{"", "abc"}, {"aa", "aaaaa"}, {"~a", "aAaA"}, {"aba", "abababa"}, {"a~a", "aaaAaa"}, {"ab", "ba"}} {
		l, w := lit(x.l), []byte(x.w)
		want := placesOf(l, w)
		all := literal.Places(l, w)
		for many := range len(want) + 1 {
			var got []int
			for at := range all {
				if len(got) == many {
					break
				}
				got = append(got, at)
			}
			if !slices.Equal(got, want[:many]) {
				t.Errorf("%q, %q, %d of them: %v", x.l, x.w, many, got)
			}
		}
		// Once it is left it tells all again, and each range has its own places.
		if got := slices.Collect(all); !slices.Equal(got, want) {
			t.Errorf("%q, %q: %v", x.l, x.w, got)
		}
		for range all {
			if got := slices.Collect(all); !slices.Equal(got, want) {
				t.Errorf("%q, %q, one in another: %v", x.l, x.w, got)
			}
		}
	}
}

func TestPlacesTellWhatWasThere(t *testing.T) {
	l, w := lit("a~b"), []byte("xabaB")
	all := literal.Places(l, w)
	l[0], w[1] = api.Letter{Byte: 'x'}, '?'
	if got := slices.Collect(all); !slices.Equal(got, []int{1, 3}) {
		t.Error(got)
	}
	w[3] = '?'
	for at := range all {
		w[4], l[1] = '?', api.Letter{}
		if at != 1 && at != 3 {
			t.Error(at)
		}
	}
	if got := slices.Collect(all); !slices.Equal(got, []int{1, 3}) {
		t.Error(got)
	}
}
