package normal_test

import (
	"slices"
	"testing"

	"riddle/api"
	"riddle/meaning"
	"riddle/normal"
	"riddle/parse"
	"riddle/tree"
)

// read is the tree of a pattern.
func read(t *testing.T, p string) api.Tree {
	t.Helper()
	x, _, e := parse.Parse([]byte(p), api.Flags{})
	if e != api.OK {
		t.Fatal(p, e)
	}
	return x
}

func TestExamples(t *testing.T) {
	if got, e := normal.Unroll(read(t, "a{1,3}")); e != api.OK || !sameTree(got, cat(a, alt(cat(a, alt(a, empty)), empty)).tree()) {
		t.Errorf("a{1,3}: error %d, %s", e, text(got))
	}
	want := []api.Branch{{Hat: true, Tree: cat(empty, a).tree()}, {Dollar: true, Tree: cat(b, empty).tree()}}
	if got, e := normal.Branches(read(t, "^a|b$")); e != api.OK || !sameBranches(got, want) {
		t.Errorf("^a|b$: error %d, %s", e, textOf(got))
	}
	// The patterns of the document's examples.
	if got, e := normal.Unroll(read(t, "ab+c")); e != api.OK || !sameTree(got, cat(cat(a, cat(b, star(b))), c).tree()) {
		t.Errorf("ab+c: error %d, %s", e, text(got))
	}
	if got, e := normal.Unroll(read(t, "a.{0,600}z")); e != api.ErrPositions || got.Nodes != nil {
		t.Errorf("a.{0,600}z: error %d, %s", e, text(got))
	}
}

// samples are shapes that Unroll takes, with anchors and without.
func samples() []*shape {
	l := append(anchored(), empty, a, star(a), rep(a, 0, 0), rep(a, 0, 1), lazy(a, 0, -1), rep(a, 2, -1), rep(rep(a, 1, 2), 2, 3), rep(alt(a, empty), 3, 5), rep(empty, 2, 4), rep(never, 0, 3))
	for nodes := 1; nodes <= 3; nodes++ {
		each(nodes, []*shape{empty, a, line, hat, dollar}, func(s *shape) { l = append(l, s) })
	}
	r := chance(99)
	for range 1500 {
		l = append(l, r.shape(1+r.below(25), true, true))
	}
	return slices.DeleteFunc(append(l, great()...), func(s *shape) bool { return s.errorOf() != api.OK })
}

// P9.4

func TestWhatIsAnsweredIsPlain(t *testing.T) {
	counted, parted := 0, 0
	for _, s := range samples() {
		x := s.tree()
		u, e := normal.Unroll(x)
		if e != api.OK || !normal.Is(u) || tree.Check(u) != api.OK {
			t.Fatalf("%s: error %d, %s", text(x), e, text(u))
		}
		if !normal.Is(x) {
			counted++
		}
		// What is plain is left as it is.
		if again, e := normal.Unroll(u); e != api.OK || !sameTree(again, u) || normal.Is(x) && !sameTree(x, u) {
			t.Fatalf("%s: error %d, %s", text(u), e, text(again))
		}
		l, e := normal.Branches(x)
		if e == api.ErrPositions {
			continue
		}
		if e != api.OK || len(l) == 0 || len(l) > 4 {
			t.Fatalf("%s: error %d, %s", text(x), e, textOf(l))
		}
		if len(l) > 1 {
			parted++
		}
		for _, b := range l {
			if !normal.Is(b.Tree) || tree.Check(b.Tree) != api.OK || len(b.Tree.Nodes) > len(u.Nodes) {
				t.Fatalf("%s: %s", text(x), text(b.Tree))
			}
			for _, n := range b.Tree.Nodes {
				if n.Kind == api.NdHat || n.Kind == api.NdDollar {
					t.Fatalf("%s: an anchor in %s", text(x), text(b.Tree))
				}
			}
		}
	}
	if counted < 500 || parted < 400 {
		t.Error(counted, parted)
	}
}

// P9.5

// begins and ends are where an NdHat, an NdDollar holds, by the words of chapter 8.
func begins(multi bool, w []byte, i int) bool { return i == 0 || multi && w[i-1] == 10 }

func ends(multi bool, w []byte, j int) bool { return j == len(w) || multi && w[j] == 10 }

// together is the table of what one of the branches means, where its anchors hold.
func together(l []api.Branch, multi bool, w []byte) [][]bool {
	all := make([][]bool, len(w)+1)
	for i := range all {
		all[i] = make([]bool, len(w)+1)
	}
	for _, b := range l {
		for i, row := range meaning.Spans(b.Tree, multi, w) {
			for j, is := range row {
				if is && (!b.Hat || begins(multi, w, i)) && (!b.Dollar || ends(multi, w, j)) {
					all[i][j] = true
				}
			}
		}
	}
	return all
}

func sameTable(x, y [][]bool) bool { return slices.EqualFunc(x, y, slices.Equal[[]bool]) }

// meansTheSame fails unless s means the same unrolled, and in branches; it answers how many spans that are.
func meansTheSame(t *testing.T, s *shape, multi bool, w []byte) int {
	t.Helper()
	x := s.tree()
	want := meaning.Spans(x, multi, w)
	u, e := normal.Unroll(x)
	if e != api.OK || !sameTable(meaning.Spans(u, multi, w), want) {
		t.Fatalf("%s, multi %t, %q: error %d, another meaning of %s", text(x), multi, w, e, text(u))
	}
	l, e := normal.Branches(x)
	if e == api.ErrPositions {
		return 0
	}
	if e != api.OK || !sameTable(together(l, multi, w), want) {
		t.Fatalf("%s, multi %t, %q: error %d, another meaning of %s", text(x), multi, w, e, textOf(l))
	}
	many := 0
	for _, row := range want {
		for _, is := range row {
			if is {
				many++
			}
		}
	}
	return many
}

func TestTheSameMeaning(t *testing.T) {
	r := chance(100)
	spans := 0
	for _, s := range samples() {
		for range 3 {
			w := r.text(7)
			spans += meansTheSame(t, s, false, w)
			spans += meansTheSame(t, s, true, w)
		}
	}
	if spans < 20000 {
		t.Error(spans)
	}
}

// Lines of all kinds, with anchors at each of their ends.
func TestTheSameMeaningInLines(t *testing.T) {
	spans := 0
	for _, s := range anchored() {
		for _, w := range []string{"", "a", "\n", "\n\n", "ab\nb", "a\nab\n", "\naab\n\nb"} {
			spans += meansTheSame(t, s, false, []byte(w))
			spans += meansTheSame(t, s, true, []byte(w))
		}
	}
	if spans < 5000 {
		t.Error(spans)
	}
}

func TestTheSameMeaningOfRepeats(t *testing.T) {
	parts := []*shape{a, empty, ab, cat(a, b), alt(a, cat(a, b)), alt(a, empty), star(a), rep(a, 0, 1), rep(b, 2, 3)}
	for _, s := range parts {
		for least := range 5 {
			for _, most := range []int{-1, 0, 1, 2, 3, 4, 5, 7} {
				if most >= 0 && most < least {
					continue
				}
				for _, w := range []string{"", "a", "aaab", "abaab", "aaaaaaaaa"} {
					meansTheSame(t, rep(s, least, most), false, []byte(w))
					meansTheSame(t, lazy(s, least, most), true, []byte(w))
					meansTheSame(t, cat(alt(hat, b), rep(s, least, most)), true, []byte(w))
				}
			}
		}
	}
}

// What patterns mean, read with their flags.
func TestTheSameMeaningOfPatterns(t *testing.T) {
	for _, p := range []string{"a+", "^a", "a$", "^a*$", "^$", "^|$", "a?b{2}", "(^|a)b", "b(a|$)", "(^|b)a{1,2}(b|$)", "^(a|b)+$|b", "(?:^a|b$|^b$|a)"} {
		x := read(t, p)
		l, e := normal.Branches(x)
		if e != api.OK {
			t.Fatal(p, e)
		}
		for _, w := range []string{"", "a", "ab", "bab", "a\nb", "\naab\n", "ab\n\nba"} {
			for _, multi := range []bool{false, true} {
				if !sameTable(together(l, multi, []byte(w)), meaning.Spans(x, multi, []byte(w))) {
					t.Errorf("%q, multi %t, %q: %s", p, multi, w, textOf(l))
				}
			}
		}
	}
}

// P9.6

func TestWidthsAndWeight(t *testing.T) {
	endless := 0
	for _, s := range samples() {
		x := s.tree()
		u, e := normal.Unroll(x)
		if e != api.OK {
			t.Fatal(e)
		}
		least, most := tree.Widths(x)
		if p, q := tree.Widths(u); p != least || q != most || tree.Weight(u) != tree.Weight(x) {
			t.Fatalf("%s: %d to %d, weight %d; not %d to %d, %d", text(x), p, q, tree.Weight(u), least, most, tree.Weight(x))
		}
		if n := s.weight().Int64(); n != int64(tree.Weight(u)) {
			t.Fatalf("%s: weight %d, not %d", text(x), tree.Weight(u), n)
		}
		if most == -1 {
			endless++
		}
	}
	if endless < 200 {
		t.Error(endless)
	}
	for _, x := range []struct {
		s                   *shape
		least, most, weight int
	}{
		{rep(a, 2, 4), 2, 4, 4}, {rep(a, 3, -1), 3, -1, 4}, {rep(a, 0, 0), 0, 0, 0}, {rep(rep(a, 1, -1), 0, 0), 0, 0, 0}, {rep(empty, 5, -1), 0, 0, 0}, {rep(rep(a, 0, 0), 3, -1), 0, 0, 0}, {rep(a, 0, 512), 0, 512, 512}, {rep(a, 511, -1), 511, -1, 512}, {rep(star(a), 4, 4), 0, -1, 4}, {cat(hat, cat(rep(cat(a, b), 2, 3), dollar)), 4, 6, 6},
	} {
		u, e := normal.Unroll(x.s.tree())
		if least, most := tree.Widths(u); e != api.OK || least != x.least || most != x.most || tree.Weight(u) != x.weight {
			t.Errorf("%s: error %d, %d to %d, weight %d", text(x.s.tree()), e, least, most, tree.Weight(u))
		}
	}
}
