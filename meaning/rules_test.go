package meaning_test

import (
	"math"
	"slices"
	"strings"
	"testing"

	"riddle/api"
	"riddle/meaning"
	"riddle/tree"
)

// given are trees of all kinds, refused and not.
func given() []api.Tree {
	l := none()
	for _, s := range kinds() {
		l = append(l, s.tree())
	}
	r := chance(95)
	for range 200 {
		l = append(l, r.shape(1+r.below(20), true, true).tree())
	}
	for _, s := range great() {
		l = append(l, s.tree())
	}
	return l
}

// node is any node, and may be none of any tree.
func (c *chance) node() api.Node {
	numbers := []int{math.MinInt, -2, -1, 0, 0, 1, 2, 3, 1000, 1001, math.MaxInt}
	number := func() int { return numbers[c.below(len(numbers))] }
	n := api.Node{Kind: c.below(9)}
	if c.below(3) == 0 {
		n.Class = raw(byte(c.below(256)))
	}
	if c.is() {
		n.A, n.B = number(), number()
	}
	if c.below(3) == 0 {
		n.Least, n.Most, n.Lazy = number(), number(), c.is()
	}
	return n
}

// R1

func TestNoCallPanics(t *testing.T) {
	r := chance(96)
	call := func(x api.Tree) {
		w := r.text(5)
		got := meaning.Spans(x, r.is(), []byte(w))
		if tree.Check(x) != api.OK {
			answers(t, x, r.is(), w, nothing(len(w)))
		}
		starts := meaning.Starts(x, r.is(), []byte(w))
		if len(got) != len(w)+1 || len(starts) != len(w)+1 || len(meaning.Ends(x, r.is(), []byte(w))) > len(w) {
			t.Fatalf("%v: %d rows, %d starts of %q", x, len(got), len(starts), w)
		}
		meaning.Match(x, r.is(), []byte(w), r.below(8)-1, r.below(8)-1)
		meaning.Empty(x)
	}
	for range 20000 {
		var x api.Tree
		for range r.below(6) {
			x.Nodes = append(x.Nodes, r.node())
		}
		call(x)
	}
	for range 5000 {
		x := r.shape(1+r.below(30), true, true).tree()
		x.Nodes[r.below(len(x.Nodes))] = r.node()
		call(x)
	}
	for _, kind := range []int{api.NdEmpty, api.NdRep, api.NdCat, 0} {
		call(api.Tree{Nodes: slices.Repeat([]api.Node{{Kind: kind}}, 1<<16)})
	}
}

// Trees as great as can be end, and mean what they must.
func TestGreatTrees(t *testing.T) {
	w := strings.Repeat("a", 90)
	for _, x := range []struct {
		s     *shape
		wide  func(n int) bool
		empty bool
	}{
		{pile(2047, a, 0, -1), func(int) bool { return true }, true},
		{pile(2047, a, 1000, 1000), func(int) bool { return false }, false},
		{pile(2047, a, 1, 1), func(n int) bool { return n == 1 }, false},
		{pile(2047, a, 1, 2), func(n int) bool { return n > 0 }, false},
		{pile(2047, a, 0, 0), func(n int) bool { return n == 0 }, true},
		{pile(2047, a, 0, 1), func(n int) bool { return n < 2 }, true},
		{pile(2047, empty, 1000, -1), func(n int) bool { return n == 0 }, true},
		{pile(10, rep(a, 0, 3), 2, 2), func(int) bool { return true }, true},
		{row(80, api.NdCat, a, true), func(n int) bool { return n == 80 }, false},
		{row(80, api.NdCat, a, false), func(n int) bool { return n == 80 }, false},
		{row(680, api.NdCat, rep(a, 0, 1), true), func(int) bool { return true }, true},
		{row(680, api.NdCat, rep(a, 0, 1), false), func(int) bool { return true }, true},
		{row(66, api.NdCat, rep(a, 0, 1), false), func(n int) bool { return n <= 66 }, true},
		{row(1024, api.NdCat, empty, false), func(n int) bool { return n == 0 }, true},
		{row(1024, api.NdAlt, a, false), func(n int) bool { return n == 1 }, false},
		{row(1024, api.NdAlt, a, true), func(n int) bool { return n == 1 }, false},
	} {
		y := x.s.tree()
		if e := tree.Check(y); e != api.OK {
			t.Fatal(e)
		}
		for i, row := range meaning.Spans(y, false, []byte(w)) {
			for j, is := range row {
				if is != (j >= i && x.wide(j-i)) {
					t.Fatalf("%d nodes, %d wide: from %d to %d %t", len(y.Nodes), j-i, i, j, is)
				}
			}
		}
		if meaning.Empty(y) != x.empty {
			t.Errorf("%d nodes: Empty %t", len(y.Nodes), !x.empty)
		}
	}
}

// R2: no call has an error, and beside what is nothing stands nothing.
func TestNothingOfWhatIsRefused(t *testing.T) {
	for _, x := range none() {
		if got := meaning.Ends(x, true, []byte("a\nb")); len(got) != 0 {
			t.Fatalf("%v: %v", x, got)
		}
		if got := meaning.Starts(x, true, []byte("a\nb")); !slices.Equal(got, []int{-1, -1, -1, -1}) {
			t.Fatalf("%v: %v", x, got)
		}
	}
}

// R3

func TestArgumentsAreTheirOwners(t *testing.T) {
	for _, x := range given() {
		// What is written behind them is seen, too.
		nodes := append(slices.Clone(x.Nodes), slices.Repeat([]api.Node{{Kind: 77}}, 8)...)
		text := []byte("aab\naXXXXXXXX")
		nodesWere, textWas := slices.Clone(nodes), string(text)
		y, w := api.Tree{Nodes: nodes[:len(x.Nodes)]}, text[:5]
		spans, ends, starts := meaning.Spans(y, true, w), meaning.Ends(y, true, w), meaning.Starts(y, true, w)
		meaning.Match(y, true, w, 1, 4)
		meaning.Empty(y)
		if !slices.Equal(nodes, nodesWere) || string(text) != textWas {
			t.Fatalf("%v: arguments were written to", x)
		}
		was, wereEnds, wereStarts := list(spans), slices.Clone(ends), slices.Clone(starts)
		clear(nodes)
		clear(text)
		if list(spans) != was || !slices.Equal(ends, wereEnds) || !slices.Equal(starts, wereStarts) {
			t.Fatalf("%v: answers change with what was handed in", x)
		}
	}
}

func TestAnswersAreApart(t *testing.T) {
	w := []byte("aab\naa")
	for _, x := range given() {
		p, q := meaning.Spans(x, true, w), meaning.Spans(x, true, w)
		ends, starts := meaning.Ends(x, true, w), meaning.Starts(x, true, w)
		endsToo, startsToo := meaning.Ends(x, true, w), meaning.Starts(x, true, w)
		was, wereEnds, wereStarts := list(q), slices.Clone(endsToo), slices.Clone(startsToo)
		for _, l := range [][]int{ends, starts} {
			for i := range l[:cap(l)] {
				l[:cap(l)][i] = 77
			}
		}
		for _, row := range p[:cap(p)] {
			for i := range row[:cap(row)] {
				row[:cap(row)][i] = !row[:cap(row)][i]
			}
		}
		if list(q) != was || list(meaning.Spans(x, true, w)) != was || !slices.Equal(endsToo, wereEnds) || !slices.Equal(startsToo, wereStarts) || !slices.Equal(meaning.Ends(x, true, w), wereEnds) || !slices.Equal(meaning.Starts(x, true, w), wereStarts) {
			t.Fatalf("%v: answers share memory", x)
		}
	}
}

// What is written into a row, or put behind it, is in no other row.
func TestRowsAreApart(t *testing.T) {
	w := []byte("aab\naa")
	for _, x := range given() {
		p := meaning.Spans(x, true, w)
		for i := range p {
			var others []string
			for k := range p {
				if k != i {
					others = append(others, list(p[k:k+1]))
				}
			}
			whole := append(p[i], true)
			for n := range whole[:cap(whole)] {
				whole[:cap(whole)][n] = true
			}
			for n := range p[i][:cap(p[i])] {
				p[i][:cap(p[i])][n] = true
			}
			for k := range p {
				if k == i {
					continue
				}
				if list(p[k:k+1]) != others[0] {
					t.Fatalf("%v: the rows %d and %d share memory", x, i, k)
				}
				others = others[1:]
			}
		}
	}
}

// R4

func TestNilAndEmptyLists(t *testing.T) {
	for _, s := range kinds() {
		for _, multi := range []bool{false, true} {
			answers(t, s.tree(), multi, "", wanted(s.tree(), s, multi, ""))
			if got := meaning.Spans(s.tree(), multi, nil); !sameTable(got, meaning.Spans(s.tree(), multi, []byte{})) {
				t.Errorf("%v: %v of nil", s, got)
			}
			if got := meaning.Starts(s.tree(), multi, nil); !slices.Equal(got, []int{-1}) {
				t.Errorf("%v: %v of nil", s, got)
			}
			if got := meaning.Ends(s.tree(), multi, nil); len(got) != 0 {
				t.Errorf("%v: %v of nil", s, got)
			}
			if meaning.Match(s.tree(), multi, nil, 0, 0) != meaning.Match(s.tree(), multi, []byte{}, 0, 0) {
				t.Errorf("%v: Match of nil", s)
			}
		}
	}
	for _, x := range []api.Tree{{}, {Nodes: []api.Node{}}} {
		answers(t, x, false, "ab", nothing(2))
	}
}

// R5

func TestZeroValues(t *testing.T) {
	for _, x := range []api.Tree{{}, {Nodes: []api.Node{{}}}} {
		answers(t, x, false, "", nothing(0))
		answers(t, x, true, "a\n", nothing(2))
		if meaning.Match(x, false, nil, 0, 0) || meaning.Empty(x) {
			t.Error(x)
		}
	}
}

// R6

func TestSameCallsAnswerTheSame(t *testing.T) {
	w := []byte("ab\naab")
	for _, x := range given() {
		for _, multi := range []bool{false, true} {
			if !sameTable(meaning.Spans(x, multi, w), meaning.Spans(x, multi, w)) || !slices.Equal(meaning.Ends(x, multi, w), meaning.Ends(x, multi, w)) || !slices.Equal(meaning.Starts(x, multi, w), meaning.Starts(x, multi, w)) || meaning.Match(x, multi, w, 0, 2) != meaning.Match(x, multi, w, 0, 2) || meaning.Empty(x) != meaning.Empty(x) {
				t.Fatalf("%v: another answer", x)
			}
		}
	}
}
