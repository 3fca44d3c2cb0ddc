package meaning_test

import (
	"math"
	"slices"
	"testing"

	"riddle/meaning"
)

// P8.1 Match

func TestMatch(t *testing.T) {
	s, w := cat(a, star(b)), []byte("cabba")
	want := []struct{ i, j int }{{1, 2}, {1, 3}, {1, 4}, {4, 5}}
	many := 0
	for i := range 6 {
		for j := range 6 {
			if meaning.Match(s.tree(), false, w, i, j) {
				if many == len(want) || i != want[many].i || j != want[many].j {
					t.Fatal(i, j)
				}
				many++
			}
		}
	}
	if many != len(want) {
		t.Error(many)
	}
}

func TestMatchAtPlacesThatThereAreNot(t *testing.T) {
	far := []int{math.MinInt, math.MinInt + 1, -64, -2, -1, 0, 1, 2, 3, 4, 64, math.MaxInt - 1, math.MaxInt}
	for _, s := range []*shape{empty, full, star(full), alt(hat, dollar), rep(full, 0, 1000), cat(hat, star(full))} {
		for _, w := range []string{"", "a", "a\n"} {
			for _, multi := range []bool{false, true} {
				r := read(multi, w)
				for _, i := range far {
					for _, j := range far {
						want := i >= 0 && i <= j && j <= len(w) && r.means(s, i, j)
						if got := meaning.Match(s.tree(), multi, []byte(w), i, j); got != want {
							t.Errorf("%v, multi %t, %q: from %d to %d %t", s, multi, w, i, j, got)
						}
					}
				}
			}
		}
	}
}

// The anchors see what stands around the span.
func TestMatchInTheMidst(t *testing.T) {
	w := []byte("ab\nab\nab")
	line := cat(cat(hat, a), cat(b, dollar))
	for _, x := range []struct {
		s     *shape
		multi bool
		i, j  int
		is    bool
	}{
		{line, true, 0, 2, true}, {line, true, 3, 5, true}, {line, true, 6, 8, true}, {line, true, 1, 3, false}, {line, false, 0, 2, false}, {line, false, 3, 5, false}, {line, false, 6, 8, false},
		{hat, true, 3, 3, true}, {hat, true, 6, 6, true}, {hat, true, 2, 2, false}, {hat, true, 5, 5, false}, {hat, false, 3, 3, false}, {hat, false, 0, 0, true}, {hat, true, 8, 8, false},
		{dollar, true, 2, 2, true}, {dollar, true, 5, 5, true}, {dollar, true, 3, 3, false}, {dollar, true, 7, 7, false}, {dollar, false, 2, 2, false}, {dollar, false, 8, 8, true}, {dollar, true, 0, 0, false},
		{cat(hat, b), true, 4, 5, false}, {cat(a, dollar), true, 3, 4, false}, {cat(hat, a), true, 3, 4, true}, {cat(b, dollar), true, 4, 5, true}, {cat(a, b), false, 3, 5, true},
	} {
		if got := meaning.Match(x.s.tree(), x.multi, w, x.i, x.j); got != x.is {
			t.Errorf("%v, multi %t, from %d to %d: %t", x.s, x.multi, x.i, x.j, got)
		}
	}
}

// A long text around a short span is nothing to it.
func TestMatchInALongText(t *testing.T) {
	w := make([]byte, 1<<22)
	copy(w[1<<21:], "ab\nabb\n")
	s := cat(cat(hat, a), cat(rep(b, 1, 1000), dollar)).tree()
	for width := range 8 {
		if got := meaning.Match(s, true, w, 1<<21+3, 1<<21+3+width); got != (width == 3) {
			t.Errorf("%d bytes: %t", width, got)
		}
	}
	if meaning.Match(s, false, w, 1<<21+3, 1<<21+6) {
		t.Error("without multi")
	}
}

// P8.1 Ends and Starts

func TestEndsAndStarts(t *testing.T) {
	aOrAA := alt(a, cat(a, a))
	for _, x := range []struct {
		s      *shape
		multi  bool
		w      string
		ends   []int
		starts []int
	}{
		// Only spans of no bytes.
		{empty, false, "", nil, []int{-1}},
		{empty, false, "ab", nil, []int{-1, -1, -1}},
		{hat, true, "a\n", nil, []int{-1, -1, -1}},
		{dollar, true, "a\n", nil, []int{-1, -1, -1}},
		{star(b), false, "aa", nil, []int{-1, -1, -1}},
		{rep(a, 0, 0), false, "aa", nil, []int{-1, -1, -1}},
		// None at all.
		{a, false, "", nil, []int{-1}},
		{a, false, "bb", nil, []int{-1, -1, -1}},
		{never, false, "ab", nil, []int{-1, -1, -1}},
		{rep(a, 3, 3), false, "aa", nil, []int{-1, -1, -1}},
		// Several begin at one place.
		{cat(a, star(b)), false, "abb", []int{1, 2, 3}, []int{-1, 0, 0, 0}},
		{aOrAA, false, "aab", []int{1, 2}, []int{-1, 0, 0, -1}},
		// Several end at one place.
		{cat(star(a), b), false, "aab", []int{3}, []int{-1, -1, -1, 0}},
		{cat(rep(a, 0, 1), b), false, "aab", []int{3}, []int{-1, -1, -1, 1}},
		{aOrAA, false, "aaa", []int{1, 2, 3}, []int{-1, 0, 0, 1}},
		{star(a), false, "aaba", []int{1, 2, 4}, []int{-1, 0, 0, -1, 3}},
		// The least start is not that of the greatest span of another end.
		{alt(cat(a, b, c), cat(b, c), c), false, "abc", []int{3}, []int{-1, -1, -1, 0}},
		{alt(c, cat(b, c)), false, "abcc", []int{3, 4}, []int{-1, -1, -1, 1, 3}},
		{cat(a, full, b), false, "aabb", []int{3, 4}, []int{-1, -1, -1, 0, 1}},
		// Anchors.
		{cat(hat, a), true, "a\na", []int{1, 3}, []int{-1, 0, -1, 2}},
		{cat(rep(a, 1, -1), dollar), true, "aa\na", []int{2, 4}, []int{-1, -1, 0, -1, 3}},
		{cat(rep(a, 1, -1), dollar), false, "aa\na", []int{4}, []int{-1, -1, -1, -1, 3}},
		{cat(hat, star(full)), true, "a\nb", []int{1, 2, 3}, []int{-1, 0, 0, 0}},
	} {
		if got := meaning.Ends(x.s.tree(), x.multi, []byte(x.w)); !slices.Equal(got, x.ends) {
			t.Errorf("%v, multi %t, %q: Ends %v, not %v", x.s, x.multi, x.w, got, x.ends)
		}
		if got := meaning.Starts(x.s.tree(), x.multi, []byte(x.w)); !slices.Equal(got, x.starts) {
			t.Errorf("%v, multi %t, %q: Starts %v, not %v", x.s, x.multi, x.w, got, x.starts)
		}
	}
}

func TestEndsOfALongText(t *testing.T) {
	w := make([]byte, 100000)
	copy(w[70000:], "aba")
	s := alt(a, cat(a, b, a), cat(b, a)).tree()
	if got := meaning.Ends(s, false, w); !slices.Equal(got, []int{70001, 70003}) {
		t.Error(got)
	}
	if got := meaning.Starts(s, false, w); len(got) != 100001 || got[70001] != 70000 || got[70002] != -1 || got[70003] != 70000 || got[0] != -1 || got[100000] != -1 {
		t.Error(len(got), got[70000:70005])
	}
}

// P8.1 Empty

func TestEmpty(t *testing.T) {
	for _, s := range []*shape{
		empty, hat, dollar, cat(hat, dollar), alt(hat, dollar), alt(a, hat), alt(dollar, a), cat(empty, dollar), cat(hat, empty), cat(hat, star(a)), cat(cat(hat, star(a)), dollar),
		star(a), rep(a, 0, 0), rep(a, 0, 1), lazy(a, 0, 1000), star(never), rep(never, 0, 0), rep(empty, 1, 1), rep(empty, 1000, -1), rep(star(a), 3, 5), rep(alt(a, empty), 1000, 1000), star(star(a)),
		alt(a, empty), alt(empty, never), cat(star(a), star(b)), cat(empty, empty), alt(alt(a, b), cat(star(a), rep(b, 0, 1))), alt(cat(hat, a), cat(star(b), dollar)), cat(alt(hat, a), alt(b, dollar)), rep(cat(star(a), star(b)), 2, 2),
	} {
		if !meaning.Empty(s.tree()) {
			t.Errorf("%v is not", s)
		}
	}
	for _, s := range []*shape{
		a, never, full, line, cat(a, b), alt(a, b), cat(hat, a), cat(a, dollar), cat(cat(hat, a), dollar), alt(a, cat(hat, b)), cat(hat, line), cat(line, dollar), cat(hat, never),
		rep(a, 1, 1), rep(a, 1, -1), rep(a, 1000, 1000), rep(never, 1, -1), cat(star(a), b), cat(a, star(b)), cat(empty, a), cat(a, empty), alt(cat(star(a), b), rep(a, 2, 3)), rep(rep(a, 1, 1), 1, 1), rep(alt(a, b), 1, 5), cat(alt(hat, a), b), cat(a, alt(b, dollar)),
	} {
		if meaning.Empty(s.tree()) {
			t.Errorf("%v is", s)
		}
	}
}

func TestEmptyOfWhatIsRefused(t *testing.T) {
	for _, x := range none() {
		if meaning.Empty(x) {
			t.Errorf("%v is", x)
		}
	}
}

// There are a text, a place and a multi, or there are none.
func TestEmptyIsSomewhere(t *testing.T) {
	r := chance(84)
	by := map[bool]int{}
	for range 4000 {
		s := r.shape(1+r.below(12), true, true)
		is := false
		for _, w := range []string{"", "a", "\n", "a\nb", "b\n\n"} {
			for _, multi := range []bool{false, true} {
				for i := range len(w) + 1 {
					is = is || meaning.Match(s.tree(), multi, []byte(w), i, i)
				}
			}
		}
		by[is]++
		if meaning.Empty(s.tree()) != is {
			t.Fatalf("%v: not %t", s, is)
		}
	}
	if by[true] < 500 || by[false] < 500 {
		t.Error(by)
	}
}
