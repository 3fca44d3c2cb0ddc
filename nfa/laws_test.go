package nfa_test

import (
	"fmt"
	"regexp"
	"slices"
	"testing"

	"riddle/api"
	"riddle/glushkov"
	"riddle/meaning"
	"riddle/nfa"
	"riddle/tree"
)

// tree is plain, without anchors, of just so many nodes.
func (c *chance) tree(nodes int) api.Tree {
	switch {
	case nodes == 1:
		n := api.Node{Kind: api.NdClass}
		switch c.below(8) {
		case 0:
			n.Kind = api.NdEmpty
		case 1:
			n.Class = raw('a', 'b')
		case 2:
			n.Class = raw('\n')
		case 3, 4:
			n.Class = raw('b')
		case 5, 6:
			n.Class = raw('a')
		}
		return tree.Leaf(n)
	case nodes == 2 || c.below(5) == 0:
		return tree.Repeat(c.tree(nodes-1), 0, -1, false)
	}
	k := 1 + c.below(nodes-2)
	kind := api.NdCat
	if c.below(3) == 0 {
		kind = api.NdAlt
	}
	return tree.Join(kind, c.tree(k), c.tree(nodes-1-k))
}

func automatonOf(t *testing.T, x api.Tree) api.Nfa {
	t.Helper()
	n, e := glushkov.Of(x)
	if e != api.OK {
		t.Fatal(x, e)
	}
	return n
}

// meant are the places of a row of a table of spans.
func meant(row []bool) []int {
	var l []int
	for j, is := range row {
		if is {
			l = append(l, j)
		}
	}
	return l
}

// P11.3

// isTheTree fails unless Ends and Events of its automaton tell what the tree means in w; it answers how many spans that are.
func isTheTree(t *testing.T, what string, x api.Tree, w []byte) int {
	t.Helper()
	n := automatonOf(t, x)
	many := 0
	for _, multi := range []bool{false, true} {
		for from, row := range meaning.Spans(x, multi, w) {
			l := meant(row)
			isTold(t, fmt.Sprintf("%s in %q from %d", what, w, from), nfa.Ends(n, w, from), l)
			many += len(l)
		}
		isTold(t, fmt.Sprintf("%s in %q", what, w), nfa.Events(n, w, false, multi), meaning.Ends(x, multi, w))
		hat := tree.Join(api.NdCat, tree.Leaf(api.Node{Kind: api.NdHat}), x)
		isTold(t, fmt.Sprintf("^%s in %q, %t", what, w, multi), nfa.Events(n, w, true, multi), meaning.Ends(hat, multi, w))
	}
	return many
}

func TestItIsTheTree(t *testing.T) {
	r := chance(31)
	many := 0
	for range 2500 {
		x := r.tree(1 + r.below(30))
		for range 3 {
			many += isTheTree(t, fmt.Sprint(x.Nodes), x, r.text(9))
		}
	}
	if many < 50000 {
		t.Error(many)
	}
}

func TestItIsTheTreeOfPatterns(t *testing.T) {
	r := chance(32)
	for _, p := range []string{"", "a", "ab", "a|b", "a*", "a+", "a?b", "a{2,4}", "(?:ab|b)*", "(?:a|b)*abb", "(?:a?b?){2}", "[ab]{3}", "(?:a*b*)*", "a*|b*", "(?:|a)b(?:|a)", "(?:aa|aaa)*", "(?:(?:a|ab)(?:b|))*", "[^a]+", ".{1,3}", `(?:a\n)*b?`, `\n+`, "a{70}|b{3}", "(?:a{0,30}b){4}", ".{100}", "[^x]{0,200}b"} {
		x := read(t, p)
		for range 12 {
			isTheTree(t, p, x, r.text(14))
		}
	}
	// Longer than a word has positions, and than there are positions.
	long := slices.Repeat([]byte("a"), 80)
	if isTheTree(t, "a{66,70}", read(t, "a{66,70}"), long) == 0 || isTheTree(t, "a{64}a*", read(t, "a{64}a*"), long) == 0 {
		t.Error("nothing is meant")
	}
}

// Patterns, held against those of another reader of them.
func TestItIsAnotherReadersPattern(t *testing.T) {
	for _, p := range []string{"a", "ab*", "(?:ab|b)*", "(?:a|b)*abb", "(?:a?b?){2}", "(?:aa|aaa)*b", "[^a]+", "a.{0,2}b", "(?:|a)b(?:|a)"} {
		n, other := of(t, p), regexp.MustCompile("^(?:"+p+")$")
		eachText("ab\n", 5, func(w []byte) {
			for from := range len(w) + 1 {
				var want []int
				for j := from; j <= len(w); j++ {
					if other.Match(w[from:j]) {
						want = append(want, j)
					}
				}
				isTold(t, fmt.Sprintf("%s in %q from %d", p, w, from), nfa.Ends(n, w, from), want)
			}
		})
	}
}

// P11.4

// above are the places above from that Ends tells of some from that begins holds of, rising.
func above(n api.Nfa, w []byte, begins func(from int) bool) []int {
	told := make([]bool, len(w)+1)
	for from := range len(w) + 1 {
		if !begins(from) {
			continue
		}
		for j := range nfa.Ends(n, w, from) {
			told[j] = told[j] || j > from
		}
	}
	return meant(told)
}

func TestAllBeginningsAtOnce(t *testing.T) {
	r := chance(33)
	many := 0
	for _, n := range append(small(), automata()...) {
		for range 12 {
			w := r.text(14)
			what := fmt.Sprintf("%s %q", show(n), w)
			want := above(n, w, func(int) bool { return true })
			many += len(want)
			isTold(t, what, nfa.Events(n, w, false, false), want)
			isTold(t, what, nfa.Events(n, w, false, true), want)
			isTold(t, what, nfa.Events(n, w, true, false), above(n, w, func(from int) bool { return from == 0 }))
			isTold(t, what, nfa.Events(n, w, true, true), above(n, w, func(from int) bool { return from == 0 || w[from-1] == '\n' }))
		}
	}
	if many < 3000 {
		t.Error(many)
	}
}

func TestAllBeginningsAtOnceInSmallTexts(t *testing.T) {
	for _, n := range small() {
		eachText("ab\n", 3, func(w []byte) {
			isTold(t, fmt.Sprintf("%s %q", show(n), w), nfa.Events(n, w, false, false), above(n, w, func(int) bool { return true }))
		})
	}
}

// Ends and Events are what Next and Accepts come to, as the chapter's words have it.
func TestPlacesByNext(t *testing.T) {
	r := chance(34)
	for _, n := range automata() {
		for range 6 {
			w := r.text(10)
			var ends, events []int
			if n.Null {
				ends = append(ends, 0)
			}
			one, each := nfa.None(n), nfa.None(n)
			for i, b := range w {
				one, each = nfa.Next(n, one, i == 0, b), nfa.Next(n, each, true, b)
				if nfa.Accepts(n, one) {
					ends = append(ends, i+1)
				}
				if nfa.Accepts(n, each) {
					events = append(events, i+1)
				}
			}
			isTold(t, show(n), nfa.Ends(n, w, 0), ends)
			isTold(t, show(n), nfa.Events(n, w, false, false), events)
		}
	}
}

// P11.5

func TestStepByStep(t *testing.T) {
	r := chance(35)
	alive := 0
	for _, n := range append(small(), automata()...) {
		for range 6 {
			s, w := r.state(len(n.Classes)), r.text(9)
			whole := nfa.Run(n, s, w)
			for cut := range len(w) + 1 {
				isState(t, fmt.Sprintf("%s %v %q, cut at %d", show(n), s, w, cut), nfa.Run(n, nfa.Run(n, s, w[:cut]), w[cut:]), whole)
			}
			stepped := s
			for _, b := range w {
				stepped = nfa.Next(n, stepped, false, b)
			}
			isState(t, show(n), stepped, whole)
			if !nfa.Dead(n, whole) {
				alive++
			}
		}
	}
	if alive < 100 {
		t.Error(alive)
	}
}

// Cut anywhere, of states that may not be, too.
func TestStepByStepOfWhatMayNotBe(t *testing.T) {
	w := []byte("abab")
	for _, many := range []int{1, 3, 64, 65} {
		n := everything(many)
		for _, s := range wrongStates(many) {
			for cut := range len(w) + 1 {
				isState(t, fmt.Sprint(many, s), nfa.Run(n, nfa.Run(n, s, w[:cut]), w[cut:]), put(many))
			}
		}
	}
	for _, n := range wrong() {
		isState(t, show(n), nfa.Run(n, nfa.Run(n, n.First, w[:2]), w[2:]), api.Bits{})
	}
}

func TestADeadStateStaysDead(t *testing.T) {
	r := chance(36)
	died := 0
	for _, n := range append(small(), automata()...) {
		none := nfa.None(n)
		if !nfa.Dead(n, none) || nfa.Accepts(n, none) {
			t.Fatal(show(n))
		}
		for b := range 256 {
			if !nfa.Dead(n, nfa.Next(n, none, false, byte(b))) {
				t.Fatalf("%s by %d", show(n), b)
			}
		}
		for range 6 {
			w := r.text(20)
			if !nfa.Dead(n, nfa.Run(n, none, w)) {
				t.Fatalf("%s by %q", show(n), w)
			}
			dead := false
			s := r.state(len(n.Classes))
			for _, b := range w {
				s = nfa.Next(n, s, false, b)
				if dead && !nfa.Dead(n, s) {
					t.Fatalf("%s by %q: alive again", show(n), w)
				}
				dead = nfa.Dead(n, s)
			}
			if dead {
				died++
			}
		}
	}
	if died < 100 {
		t.Error(died)
	}
}
