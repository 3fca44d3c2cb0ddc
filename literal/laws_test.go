package literal_test

import (
	"slices"
	"testing"

	"riddle/api"
	"riddle/literal"
	"riddle/meaning"
	"riddle/normal"
	"riddle/parse"
	"riddle/tree"
)

// P15.4

// aheadOf is how many bytes the parts ahead of the one of that number have in all, at least.
func aheadOf(x api.Tree, first int) int {
	all, at := 0, 0
	for part := range tree.Parts(x, api.NdCat) {
		if at == first {
			break
		}
		least, _ := tree.Widths(part)
		all += least
		at++
	}
	return all
}

// wanted are the runs of x and the best one, and how many bytes must be ahead of each.
func wanted(x api.Tree) []run {
	l := runsOf(x)
	if best, first, is := literal.Best(x); is {
		l = append(l, run{first: first, letters: best})
	}
	for i := range l {
		l[i].ahead = aheadOf(x, l[i].first)
	}
	return l
}

// hasThem fails unless the text from i to j of w has each of them, with as many bytes ahead of it as there must be.
func hasThem(t *testing.T, x api.Tree, l []run, w []byte, i, j int) {
	t.Helper()
	for _, r := range l {
		is := false
		for at := range literal.Places(r.letters, w[i:j]) {
			is = is || at >= r.ahead && literal.At(r.letters, w, i+at)
		}
		if !is {
			t.Fatalf("%s: %q has not %s behind %d", text(x), w[i:j], show(r.letters), r.ahead)
		}
	}
}

// hasThemIn fails unless each text that x means in w has them; it answers how many such texts there are.
func hasThemIn(t *testing.T, x api.Tree, l []run, multi bool, w []byte) int {
	t.Helper()
	spans := 0
	for i, row := range meaning.Spans(x, multi, w) {
		for j, is := range row {
			if is {
				hasThem(t, x, l, w, i, j)
				spans++
			}
		}
	}
	return spans
}

func TestEachTextHasIt(t *testing.T) {
	var texts [][]byte
	eachText("aAb", 4, func(w []byte) { texts = append(texts, w) })
	found, spans := 0, 0
	for nodes := 1; nodes <= 5; nodes++ {
		each(nodes, []*shape{a, both, b, hat, empty}, func(s *shape) {
			x := s.tree()
			l := wanted(x)
			if len(l) == 0 {
				return
			}
			found++
			for i, w := range texts {
				if nodes < 5 || i%5 == found%5 {
					spans += hasThemIn(t, x, l, i%2 == 0, w)
				}
			}
		})
	}
	if found < 300 || spans < 5000 {
		t.Error(found, spans)
	}
}

// Texts that are made of the tree, alone and between others.
func TestEachTextOfATreeHasIt(t *testing.T) {
	c := chance(41)
	found, ahead := 0, 0
	for range 3000 {
		s := c.sequence(1 + c.below(24))
		x := s.tree()
		l := wanted(x)
		for range 3 {
			w, is := c.member(s)
			if !is || len(w) > 60 {
				continue
			}
			if !meaning.Match(x, false, w, 0, len(w)) {
				t.Fatalf("%s: %q", text(x), w)
			}
			hasThem(t, x, l, w, 0, len(w))
			front, back := c.text(3, "abAB"), c.text(3, "abAB")
			hasThem(t, x, l, slices.Concat(front, w, back), len(front), len(front)+len(w))
			found += len(l)
			for _, r := range l {
				ahead += r.ahead
			}
		}
	}
	if found < 20000 || ahead < 50000 {
		t.Error(found, ahead)
	}
}

// How many bytes the tests say that are ahead of a run is what tree.Widths says.
func TestBytesAhead(t *testing.T) {
	c := chance(42)
	for range 1000 {
		s := c.sequence(1 + c.below(30))
		x := s.tree()
		for _, r := range s.runs() {
			if n := aheadOf(x, r.first); n != r.ahead {
				t.Fatalf("%s, part %d: %d, not %d", text(x), r.first, n, r.ahead)
			}
		}
	}
}

// What patterns mean, parted into branches without anchors, as plans are made of them.
func TestEachTextOfAPatternHasIt(t *testing.T) {
	c := chance(43)
	spans := 0
	for _, p := range []string{"x*abc?de", "ab[xy]cd", "(?:ab){2}.c", "a+b+", "^ab|ba$", "(?:ab|b)ab(?:a|b)?ba", "a{2,3}b{0,2}aa", "^a.b$|bb", "(?:a|)(?:b|)ab", "[ab]ab[ab]{2}b*a", "aab*", "(?:^a|b)ab(?:b|a$)"} {
		for _, f := range []api.Flags{{}, {Case: true}} {
			x, _, e := parse.Parse([]byte(p), f)
			if e != api.OK {
				t.Fatal(p, e)
			}
			l, e := normal.Branches(x)
			if e != api.OK {
				t.Fatal(p, e)
			}
			for _, b := range l {
				want := wanted(b.Tree)
				for range 1000 {
					spans += hasThemIn(t, b.Tree, want, c.is(), c.text(12, []string{"ab", "abAB", "abxcde"}[c.below(3)]))
				}
			}
		}
	}
	if spans < 10000 {
		t.Error(spans)
	}
}

// What Best answers may be, and is of a run than which there is none longer.
func TestBestIsOfTheRuns(t *testing.T) {
	found := 0
	for _, s := range plain() {
		x := s.tree()
		best, first, is := literal.Best(x)
		longest, ofBest := 0, 0
		for at, l := range literal.Runs(x) {
			longest = max(longest, len(l))
			if is && at == first {
				ofBest = len(l)
				if !literal.Same(best, l[:min(len(l), api.MaxLiteral)]) {
					t.Fatalf("%s: %s, not of %s", text(x), show(best), show(l))
				}
			}
		}
		if is != (longest >= api.MinLiteral) || is && (ofBest != longest || literal.Check(best) != api.OK) {
			t.Fatalf("%s: %s, %d, %t", text(x), show(best), first, is)
		}
		if is {
			found++
		}
	}
	if found < 400 {
		t.Error(found)
	}
}
