package meaning_test

import (
	"math"
	"slices"
	"strings"
	"testing"

	"riddle/api"
	"riddle/meaning"
	"riddle/tree"
)

// P8.1 Spans

func TestSpansOfEachKind(t *testing.T) {
	for _, x := range []struct {
		s        *shape
		w, spans string
	}{
		{empty, "", "0-0"}, {empty, "a", "0-0 1-1"}, {empty, "ab", "0-0 1-1 2-2"},
		{a, "", ""}, {a, "a", "0-1"}, {a, "b", ""}, {a, "abaa", "0-1 2-3 3-4"}, {ab, "abc", "0-1 1-2"}, {full, "\x00\n\xff", "0-1 1-2 2-3"}, {line, "a\n", "1-2"},
		{cat(a, b), "", ""}, {cat(a, b), "a", ""}, {cat(a, b), "ab", "0-2"}, {cat(a, b), "abab", "0-2 2-4"}, {cat(b, a), "abab", "1-3"}, {cat(a, a), "aaa", "0-2 1-3"},
		{alt(a, b), "", ""}, {alt(a, b), "a", "0-1"}, {alt(a, b), "b", "0-1"}, {alt(a, b), "cba", "1-2 2-3"}, {alt(a, cat(a, b)), "ab", "0-1 0-2"}, {alt(empty, a), "a", "0-0 0-1 1-1"},
		{star(a), "", "0-0"}, {star(a), "a", "0-0 0-1 1-1"}, {star(a), "ab", "0-0 0-1 1-1 2-2"}, {star(a), "aa", "0-0 0-1 0-2 1-1 1-2 2-2"},
		{cat(star(a), b), "aab", "0-3 1-3 2-3"}, {cat(a, star(b)), "abb", "0-1 0-2 0-3"}, {cat(alt(a, cat(a, b)), alt(c, cat(b, c))), "abc", "0-3"},
	} {
		means(t, x.s, x.w, x.spans)
	}
}

func TestEachByteInAClass(t *testing.T) {
	all := make([]byte, 256)
	for n := range all {
		all[n] = byte(n)
	}
	for n := range all {
		want := nothing(256)
		want[n][n+1] = true
		if got := meaning.Spans(set(byte(n)).tree(), n%2 == 0, all); !sameTable(got, want) {
			t.Fatalf("%d: %s", n, list(got))
		}
	}
}

func TestAClassOfNoByte(t *testing.T) {
	for _, w := range []string{"", "a", "\x00\xff\n"} {
		for _, s := range []*shape{never, cat(never, a), cat(a, never), alt(never, never), rep(never, 1, -1), rep(never, 3, 5), cat(never, dollar), cat(hat, never), cat(empty, never)} {
			means(t, s, w, "")
		}
	}
	for _, s := range []*shape{star(never), rep(never, 0, 5), rep(never, 0, 0), alt(never, empty)} {
		means(t, s, "", "0-0")
		means(t, s, "ab", "0-0 1-1 2-2")
	}
	means(t, alt(never, a), "a", "0-1")
	means(t, cat(star(never), a), "aa", "0-1 1-2")
}

func TestRowsAndHowLongTheyAre(t *testing.T) {
	l := none()
	for _, s := range kinds() {
		l = append(l, s.tree())
	}
	for _, x := range l {
		for _, many := range []int{0, 1, 2, 7, 63, 64, 65, 130} {
			got := meaning.Spans(x, many%2 == 0, []byte(strings.Repeat("a", many)))
			if len(got) != many+1 {
				t.Fatalf("%v: %d rows of %d bytes", x, len(got), many)
			}
			for i, row := range got {
				if len(row) != many+1 {
					t.Fatalf("%v: %d in the row %d of %d bytes", x, len(row), i, many)
				}
				if slices.Contains(row[:i], true) {
					t.Fatalf("%v: a span of %d ends ahead of it", x, i)
				}
			}
		}
	}
}

func TestWhatIsRefusedMeansNothing(t *testing.T) {
	for _, x := range none() {
		if tree.Check(x) == api.OK {
			t.Fatal("it may be:", x)
		}
		for _, w := range []string{"", "a", "\n", "aab\n"} {
			answers(t, x, false, w, nothing(len(w)))
			answers(t, x, true, w, nothing(len(w)))
		}
		if meaning.Empty(x) {
			t.Fatalf("%v is empty", x)
		}
	}
}

// Anchors

func TestAnchorsWithoutMulti(t *testing.T) {
	for _, x := range []struct {
		s        *shape
		w, spans string
	}{
		{hat, "", "0-0"}, {hat, "a", "0-0"}, {hat, "\n", "0-0"}, {hat, "a\n\nb", "0-0"}, {hat, "\n\n\n", "0-0"},
		{dollar, "", "0-0"}, {dollar, "a", "1-1"}, {dollar, "\n", "1-1"}, {dollar, "a\n\nb", "4-4"}, {dollar, "\n\n\n", "3-3"}, {dollar, "a\n", "2-2"},
		{cat(hat, dollar), "", "0-0"}, {cat(hat, dollar), "a", ""}, {cat(hat, dollar), "\n", ""}, {alt(hat, dollar), "a\nb", "0-0 3-3"},
		{cat(hat, a), "aa", "0-1"}, {cat(hat, a), "a\na", "0-1"}, {cat(a, dollar), "aa", "1-2"}, {cat(a, dollar), "a\na", "2-3"}, {cat(a, dollar), "a\n", ""},
		{cat(cat(hat, star(a)), dollar), "aa", "0-2"}, {cat(cat(hat, star(a)), dollar), "aab", ""}, {cat(cat(hat, full), dollar), "\n", "0-1"},
		{cat(alt(hat, b), a), "aba", "0-1 1-3"}, {cat(a, alt(b, dollar)), "aba", "0-2 2-3"},
	} {
		meansWith(t, x.s, false, x.w, x.spans)
	}
}

func TestAnchorsWithMulti(t *testing.T) {
	for _, x := range []struct {
		s        *shape
		w, spans string
	}{
		{hat, "", "0-0"}, {hat, "a", "0-0"}, {hat, "\n", "0-0 1-1"}, {hat, "a\nb", "0-0 2-2"}, {hat, "a\n\nb", "0-0 2-2 3-3"}, {hat, "\n\n\n", "0-0 1-1 2-2 3-3"}, {hat, "ab\n", "0-0 3-3"},
		{dollar, "", "0-0"}, {dollar, "a", "1-1"}, {dollar, "\n", "0-0 1-1"}, {dollar, "a\nb", "1-1 3-3"}, {dollar, "a\n\nb", "1-1 2-2 4-4"}, {dollar, "\n\n\n", "0-0 1-1 2-2 3-3"}, {dollar, "\nab", "0-0 3-3"},
		{cat(hat, dollar), "", "0-0"}, {cat(hat, dollar), "a", ""}, {cat(hat, dollar), "\n", "0-0 1-1"}, {cat(hat, dollar), "a\n\nb", "2-2"}, {cat(hat, dollar), "a\nb", ""}, {alt(hat, dollar), "a\nb", "0-0 1-1 2-2 3-3"},
		{cat(hat, a), "a\na", "0-1 2-3"}, {cat(hat, a), "aa", "0-1"}, {cat(a, dollar), "a\na", "0-1 2-3"}, {cat(a, dollar), "aa\n", "1-2"},
		{cat(cat(hat, star(a)), dollar), "aa\n\na", "0-2 3-3 4-5"}, {cat(cat(hat, star(full)), dollar), "a\nb", "0-1 0-3 2-3"}, {cat(hat, line), "\n\na\n", "0-1 1-2"}, {cat(line, dollar), "\n\na\n", "0-1 3-4"},
		{cat(alt(hat, b), a), "ba\na", "0-2 3-4"}, {cat(a, alt(b, dollar)), "a\nab", "0-1 2-4"},
		// Bytes beside the 10 end no line.
		{hat, "\r\x0b\t\x00\x8a", "0-0"}, {dollar, "\r\x0b\t\x00\x8a", "5-5"},
	} {
		meansWith(t, x.s, true, x.w, x.spans)
	}
}

// Repeats

func TestRepeats(t *testing.T) {
	aOrAA := alt(a, cat(a, a))
	for _, x := range []struct {
		s        *shape
		w, spans string
	}{
		// Least and Most alike.
		{rep(a, 1, 1), "aa", "0-1 1-2"}, {rep(a, 2, 2), "aaa", "0-2 1-3"}, {rep(a, 3, 3), "aa", ""}, {rep(cat(a, b), 2, 2), "ababab", "0-4 2-6"}, {rep(cat(a, b), 3, 3), "ababab", "0-6"},
		// None.
		{rep(a, 0, 0), "", "0-0"}, {rep(a, 0, 0), "aa", "0-0 1-1 2-2"}, {cat(rep(a, 0, 0), b), "ab", "1-2"}, {rep(empty, 0, 0), "a", "0-0 1-1"},
		// From one bound to another.
		{rep(a, 0, 1), "aa", "0-0 0-1 1-1 1-2 2-2"}, {rep(a, 1, 2), "aaa", "0-1 0-2 1-2 1-3 2-3"}, {rep(a, 2, 3), "aaaa", "0-2 0-3 1-3 1-4 2-4"}, {lazy(a, 2, 3), "aaaa", "0-2 0-3 1-3 1-4 2-4"}, {rep(a, 2, 9), "aaa", "0-2 0-3 1-3"},
		// Without end.
		{rep(a, 1, -1), "aa", "0-1 0-2 1-2"}, {rep(a, 2, -1), "aaa", "0-2 0-3 1-3"}, {lazy(a, 2, -1), "aaa", "0-2 0-3 1-3"}, {rep(a, 3, -1), "aa", ""}, {rep(a, 1, -1), "baab", "1-2 1-3 2-3"}, {star(cat(a, b)), "abab", "0-0 0-2 0-4 1-1 2-2 2-4 3-3 4-4"},
		// Of what means no bytes.
		{star(empty), "a", "0-0 1-1"}, {rep(empty, 5, 7), "a", "0-0 1-1"}, {rep(empty, 1000, -1), "a", "0-0 1-1"}, {rep(alt(a, empty), 2, 2), "aaa", "0-0 0-1 0-2 1-1 1-2 1-3 2-2 2-3 3-3"}, {rep(alt(a, empty), 3, -1), "aa", "0-0 0-1 0-2 1-1 1-2 2-2"}, {rep(star(a), 2, 3), "aa", "0-0 0-1 0-2 1-1 1-2 2-2"},
		// Of what has several widths.
		{rep(aOrAA, 2, 2), "aaaaa", "0-2 0-3 0-4 1-3 1-4 1-5 2-4 2-5 3-5"}, {rep(alt(cat(a, a), cat(a, a, a)), 1, -1), "aaaaa", "0-2 0-3 0-4 0-5 1-3 1-4 1-5 2-4 2-5 3-5"}, {rep(alt(a, cat(b, b)), 2, 2), "abba", "0-3 1-4"},
		// In one another.
		{rep(rep(a, 2, 2), 2, 2), "aaaaa", "0-4 1-5"}, {rep(rep(a, 2, 3), 0, 1), "aaa", "0-0 0-2 0-3 1-1 1-3 2-2 3-3"}, {star(star(a)), "ab", "0-0 0-1 1-1 2-2"}, {star(rep(a, 2, 2)), "aaaa", "0-0 0-2 0-4 1-1 1-3 2-2 2-4 3-3 4-4"}, {rep(rep(rep(a, 0, 1), 0, 1), 1, 1), "a", "0-0 0-1 1-1"}, {rep(star(cat(star(a), b)), 1, 1), "aab", "0-0 0-3 1-1 1-3 2-2 2-3 3-3"},
	} {
		means(t, x.s, x.w, x.spans)
	}
}

// How many of a class there are is as many as a span is wide, whatever the bounds.
func TestEachBoundOfAClass(t *testing.T) {
	bounds := []int{0, 1, 2, 3, 31, 32, 62, 63, 64, 65, 66, 127, 128, 129, 130, 131, 999, 1000}
	for _, many := range []int{0, 1, 2, 63, 64, 65, 130} {
		w := []byte(strings.Repeat("a", many))
		for _, least := range bounds {
			for _, most := range append([]int{-1}, bounds...) {
				if most != -1 && most < least {
					continue
				}
				got := meaning.Spans(rep(a, least, most).tree(), false, w)
				for i := range many + 1 {
					for j := range many + 1 {
						if want := j-i >= least && (most == -1 || j-i <= most) && j >= i; got[i][j] != want {
							t.Fatalf("%d to %d: from %d to %d of %d is %t", least, most, i, j, many, got[i][j])
						}
					}
				}
			}
		}
	}
}

func TestGreatBounds(t *testing.T) {
	w := []byte(strings.Repeat("a", 2001))
	for _, x := range []struct {
		s           *shape
		least, most int
	}{
		{rep(a, 1000, 1000), 1000, 1000}, {rep(a, 999, 1000), 999, 1000}, {rep(cat(a, a), 1000, 1000), 2000, 2000}, {rep(rep(a, 0, 1000), 2, 2), 0, 2000}, {rep(rep(a, 40, 40), 50, 50), 2000, 2000}, {rep(a, 1000, -1), 1000, math.MaxInt}, {rep(rep(a, 1000, 1000), 1000, 1000), 1000000, 1000000}, {rep(rep(a, 0, 1000), 1000, 1000), 0, 1000000},
	} {
		for _, width := range []int{0, 1, 998, 999, 1000, 1001, 1999, 2000, 2001} {
			if got := meaning.Match(x.s.tree(), false, w, len(w)-width, len(w)); got != (width >= x.least && width <= x.most) {
				t.Errorf("%v of %d bytes: %t", x.s, width, got)
			}
		}
	}
	// Of parts of 6 and of 10 bytes not all widths can be put together.
	s := rep(alt(rep(a, 6, 6), rep(a, 10, 10)), 1, 1000)
	for width := range 200 {
		want := width > 0 && width%2 == 0 && width != 2 && width != 4 && width != 8 && width != 14
		if got := meaning.Match(s.tree(), false, w, 7, 7+width); got != want {
			t.Errorf("%d bytes: %t", width, got)
		}
	}
}

// Against the chapter's words, and against package regexp

func TestAllSmallTrees(t *testing.T) {
	leaves := []*shape{empty, a, ab, never, hat, dollar}
	meant, not := 0, 0
	for nodes := 1; nodes <= 3; nodes++ {
		each(nodes, leaves, func(s *shape) {
			x := s.tree()
			for _, w := range texts("ab\n", 3) {
				for _, multi := range []bool{false, true} {
					want := wanted(x, s, multi, w)
					answers(t, x, multi, w, want)
					if list(want) == "" {
						not++
					} else {
						meant++
					}
				}
			}
		})
	}
	if meant < 5000 || not < 5000 {
		t.Error(meant, not)
	}
}

func TestAllTreesOfFewLeaves(t *testing.T) {
	for _, leaves := range [][]*shape{{a, empty}, {a, hat}, {ab, dollar}} {
		each(4, leaves, func(s *shape) {
			x := s.tree()
			for _, w := range []string{"", "a", "aa", "aab", "a\na", "abaa"} {
				multi := w != "aa"
				answers(t, x, multi, w, wanted(x, s, multi, w))
			}
		})
	}
}

func TestManyTrees(t *testing.T) {
	r := chance(81)
	for range 3000 {
		s, w, multi := r.shape(1+r.below(25), true, true), r.text(9), r.is()
		answers(t, s.tree(), multi, w, wanted(s.tree(), s, multi, w))
	}
}

func TestLongTexts(t *testing.T) {
	r := chance(82)
	for range 25 {
		s, multi := r.shape(1+r.below(12), true, true), r.is()
		w := strings.Repeat(r.text(9), 8) + r.text(70) + "a"
		want := wanted(s.tree(), s, multi, w)
		if got := meaning.Spans(s.tree(), multi, []byte(w)); !sameTable(got, want) {
			t.Fatalf("%v, multi %t, %q: %s, not %s", s, multi, w, list(got), list(want))
		}
	}
}

func TestAsPackageRegexpSays(t *testing.T) {
	r := chance(83)
	for range 400 {
		s, w, multi := r.shape(1+r.below(12), true, true), r.text(6), r.is()
		if p := s.String(); len(p) > 400 {
			continue
		}
		got := meaning.Spans(s.tree(), multi, []byte(w))
		for i := range got {
			for j := i; j <= len(w); j++ {
				if want := s.matches(t, multi, w, i, j); got[i][j] != want {
					t.Fatalf("%v, multi %t, %q: from %d to %d %t, not %t", s, multi, w, i, j, got[i][j], want)
				}
			}
		}
	}
}
