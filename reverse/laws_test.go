package reverse_test

import (
	"fmt"
	"regexp"
	"testing"

	"riddle/api"
	"riddle/glushkov"
	"riddle/meaning"
	"riddle/reverse"
	"riddle/tree"
)

// tree is plain, without anchors, of just so many nodes; without alt no NdAlt is in it.
func (c *chance) tree(nodes int, alt bool) api.Tree {
	switch {
	case nodes == 1:
		n := api.Node{Kind: api.NdClass}
		switch c.below(8) {
		case 0:
			n.Kind = api.NdEmpty
		case 1:
			n.Class = raw('a', 'b')
		case 2:
			n.Class = raw('\n')
		case 3, 4:
			n.Class = raw('b')
		case 5, 6:
			n.Class = raw('a')
		}
		return tree.Leaf(n)
	case nodes == 2 || c.below(5) == 0:
		return tree.Repeat(c.tree(nodes-1, alt), 0, -1, false)
	}
	k := 1 + c.below(nodes-2)
	kind := api.NdCat
	if alt && c.below(3) == 0 {
		kind = api.NdAlt
	}
	return tree.Join(kind, c.tree(k, alt), c.tree(nodes-1-k, alt))
}

func automatonOf(t *testing.T, x api.Tree) api.Nfa {
	t.Helper()
	n, e := glushkov.Of(x)
	if e != api.OK {
		t.Fatal(x, e)
	}
	return n
}

var patterns = []string{"", "a", "ab", "a|b", "a*", "a+", "a?b", "a{2,4}", "(?:ab|b)*", "(?:a|b)*abb", "(?:a?b?){2}", "[ab]{3}", "(?:a*b*)*", "a*|b*", "(?:|a)b(?:|a)", "(?:aa|aaa)*", "(?:(?:a|ab)(?:b|))*", "[^a]+", ".{1,3}", `(?:a\n)*b?`, `\n+`, "a{70}|b{3}", "(?:a{0,30}b){4}", ".{100}", "[^x]{0,200}b"}

// P12.3

func TestTwice(t *testing.T) {
	for _, n := range append(small(), automata()...) {
		isNfa(t, "Reverse of Reverse", reverse.Reverse(reverse.Reverse(n)), n)
		isNfa(t, "Turn of Turn", reverse.Turn(reverse.Turn(n)), n)
		isNfa(t, "one and the other", reverse.Turn(reverse.Reverse(n)), reverse.Reverse(reverse.Turn(n)))
	}
	for _, p := range patterns {
		n := of(t, p)
		isNfa(t, p, reverse.Reverse(reverse.Reverse(n)), n)
		isNfa(t, p, reverse.Turn(reverse.Turn(n)), n)
	}
	for _, n := range wrong() {
		isNfa(t, show(n), reverse.Reverse(reverse.Reverse(n)), api.Nfa{})
		isNfa(t, show(n), reverse.Turn(reverse.Turn(n)), api.Nfa{})
	}
}

// What is made of an automaton that may be may be.
func TestTheyMayBe(t *testing.T) {
	for _, n := range append(append(small(), automata()...), wrong()...) {
		if e := glushkov.Check(reverse.Reverse(n)); e != api.OK {
			t.Errorf("Reverse of %s: %d", show(n), e)
		}
		if e := glushkov.Check(reverse.Turn(n)); e != api.OK {
			t.Errorf("Turn of %s: %d", show(n), e)
		}
	}
}

// P12.4

func TestTurnedRound(t *testing.T) {
	taken := 0
	held := func(n, back, turn api.Nfa, w []byte) {
		t.Helper()
		is := takes(n, w)
		if takes(back, backwards(w)) != is || takes(turn, w) != is {
			t.Fatalf("%s %q: %t", show(n), w, is)
		}
		if is {
			taken++
		}
	}
	for _, n := range small() {
		back, turn := reverse.Reverse(n), reverse.Turn(n)
		eachText("ab\n", 4, func(w []byte) { held(n, back, turn, w) })
	}
	r := chance(31)
	for _, n := range automata() {
		back, turn := reverse.Reverse(n), reverse.Turn(n)
		for range 12 {
			held(n, back, turn, r.text(12))
		}
	}
	if taken < 1500 {
		t.Error(taken)
	}
}

// isTheMirrors fails unless Reverse of x's automaton takes just what its Mirror's takes; it answers whether w is taken.
func isTheMirrors(t *testing.T, x api.Tree, w []byte) bool {
	t.Helper()
	back, mirror := reverse.Reverse(automatonOf(t, x)), automatonOf(t, tree.Mirror(x))
	is := takes(mirror, w)
	if takes(back, w) != is || meaning.Match(tree.Mirror(x), false, w, 0, len(w)) != is {
		t.Fatalf("%v %q: %t", x.Nodes, w, is)
	}
	return is
}

func TestItIsTheMirrors(t *testing.T) {
	r := chance(32)
	taken := 0
	for range 1500 {
		x := r.tree(1+r.below(20), true)
		for range 4 {
			if isTheMirrors(t, x, r.text(6)) {
				taken++
			}
		}
	}
	if taken < 1000 {
		t.Error(taken)
	}
	for _, p := range patterns {
		x := read(t, p)
		for range 12 {
			isTheMirrors(t, x, r.text(14))
		}
	}
}

// Without NdAlt it is the Mirror's, position by position.
func TestWithoutAltItIsTheMirrorsItself(t *testing.T) {
	r := chance(33)
	for range 3000 {
		x := r.tree(1+r.below(40), false)
		isNfa(t, fmt.Sprint(x.Nodes), reverse.Turn(reverse.Reverse(automatonOf(t, x))), automatonOf(t, tree.Mirror(x)))
	}
	for _, p := range []string{"", "a", "ab", "abc", "a*", "a+", "a*b*", "(?:ab*)*c", "a(?:bc)*d", "a{70}", "(?:a{40}b*){3}", "a{3,}b{2,}", ".{512}"} {
		x := read(t, p)
		isNfa(t, p, reverse.Turn(reverse.Reverse(automatonOf(t, x))), automatonOf(t, tree.Mirror(x)))
	}
	// With one it need not be: the positions of a|b stand the same way round in its Mirror.
	x := read(t, "a|b")
	if equal(reverse.Turn(reverse.Reverse(automatonOf(t, x))), automatonOf(t, tree.Mirror(x))) {
		t.Error("a|b")
	}
}

// P12.5

// isTheTree fails unless Starts and Least of x's automaton are what package meaning says of x in w; it answers how many least starts there are.
func isTheTree(t *testing.T, what string, x api.Tree, w []byte) int {
	t.Helper()
	n := automatonOf(t, x)
	hat := tree.Join(api.NdCat, tree.Leaf(api.Node{Kind: api.NdHat}), x)
	many := 0
	for _, multi := range []bool{false, true} {
		all := meaning.Spans(x, multi, w)
		for end, want := range meaning.Starts(x, multi, w) {
			isLeast(t, fmt.Sprintf("%s in %q", what, w), n, w, end, way{false, multi}, want)
			if want >= 0 {
				many++
			}
			var l []int
			for i := end; i >= 0; i-- {
				if all[i][end] {
					l = append(l, i)
				}
			}
			isTold(t, fmt.Sprintf("%s in %q at %d", what, w, end), reverse.Starts(n, w, end), l)
		}
		for end, want := range meaning.Starts(hat, multi, w) {
			isLeast(t, fmt.Sprintf("^%s in %q", what, w), n, w, end, way{true, multi}, want)
		}
	}
	return many
}

func TestTheLeastStart(t *testing.T) {
	r := chance(34)
	many := 0
	for range 2000 {
		x := r.tree(1+r.below(30), true)
		for range 3 {
			many += isTheTree(t, fmt.Sprint(x.Nodes), x, r.text(9))
		}
	}
	if many < 20000 {
		t.Error(many)
	}
}

func TestTheLeastStartOfPatterns(t *testing.T) {
	r := chance(35)
	for _, p := range patterns {
		x := read(t, p)
		for range 8 {
			isTheTree(t, p, x, r.text(14))
		}
	}
	// Longer than a word has positions, and than there are positions.
	long := make([]byte, 80)
	for i := range long {
		long[i] = 'a'
	}
	if isTheTree(t, "a{66,70}", read(t, "a{66,70}"), long) == 0 || isTheTree(t, "a{64}a*", read(t, "a{64}a*"), long) == 0 {
		t.Error("nothing is meant")
	}
}

// Patterns, held against those of another reader of them.
func TestItIsAnotherReadersPattern(t *testing.T) {
	for _, p := range []string{"a", "ab*", "(?:ab|b)*", "(?:a|b)*abb", "(?:a?b?){2}", "(?:aa|aaa)*b", "[^a]+", "a.{0,2}b", "(?:|a)b(?:|a)"} {
		n, other := of(t, p), regexp.MustCompile("^(?:"+p+")$")
		eachText("ab\n", 5, func(w []byte) {
			for end := range len(w) + 1 {
				var want []int
				for i := end; i >= 0; i-- {
					if other.Match(w[i:end]) {
						want = append(want, i)
					}
				}
				isTold(t, fmt.Sprintf("%s in %q at %d", p, w, end), reverse.Starts(n, w, end), want)
			}
		})
	}
}
