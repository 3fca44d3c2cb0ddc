package tree_test

import (
	"math"
	"slices"
	"testing"

	"riddle/api"
	"riddle/tree"
)

// answers are the trees that the calls of the package answer for t, all of them.
func answers(x api.Tree) []api.Tree {
	other := aCat(aClass('y'), aRep(aClass('z'), 0, 2)).tree()
	l := []api.Tree{
		tree.Join(api.NdCat, x, other), tree.Join(api.NdAlt, other, x), tree.Join(api.NdCat, x, x), tree.Join(0, x, x),
		tree.Repeat(x, 1, 2, true), tree.Mirror(x), tree.Clone(x),
	}
	for _, at := range []int{0, len(x.Nodes) / 2, len(x.Nodes) - 1} {
		s, _ := tree.Sub(x, at)
		l = append(l, s)
	}
	for _, kind := range []int{api.NdCat, api.NdAlt, api.NdRep} {
		l = append(l, slices.Collect(tree.Parts(x, kind))...)
	}
	return l
}

func copies(l []api.Tree) []api.Tree {
	var c []api.Tree
	for _, x := range l {
		c = append(c, api.Tree{Nodes: slices.Clone(x.Nodes)})
	}
	return c
}

func equal(a, b []api.Tree) bool {
	return slices.EqualFunc(a, b, func(a, b api.Tree) bool { return slices.Equal(a.Nodes, b.Nodes) })
}

// R1

func TestNoCallPanics(t *testing.T) {
	edges := []int{math.MinInt, -2049, -1, 0, 1, 2, 3, 5, 2047, 2048, 2049, math.MaxInt}
	c := chance(25)
	all := append(refused(), trees()...)
	for range 3000 {
		var l []api.Node
		for range c.below(8) {
			l = append(l, c.node())
		}
		all = append(all, api.Tree{Nodes: l})
	}
	for _, x := range all {
		tree.Check(x)
		tree.Widths(x)
		tree.Weight(x)
		tree.Same(x, api.Tree{})
		answers(x)
		for _, n := range edges {
			tree.Sub(x, n)
			tree.Repeat(x, n, -n, false)
			for range tree.Parts(x, n) {
			}
		}
		for _, n := range x.Nodes[:min(3, len(x.Nodes))] {
			tree.Leaf(n)
		}
	}
	for _, n := range edges {
		tree.Leaf(api.Node{Kind: n, A: n, B: n, Least: n, Most: n})
		tree.Join(n, all[0], all[1])
	}
}

// What was damaged is taken as the shapes say.
func TestCallsOfDamagedTrees(t *testing.T) {
	c := chance(26)
	for range 5000 {
		x := c.damaged(c.shape(1 + c.below(12)).tree())
		s := taken(x)
		isTree(t, tree.Mirror(x), s.mirror())
		isTree(t, tree.Repeat(x, 3, 4, false), aRep(s, 3, 4))
		isTree(t, tree.Join(api.NdAlt, x, x), anAlt(s, s))
		tells(t, x, api.NdCat, s.parts(api.NdCat)...)
		subs := s.subs()
		at := c.below(14)
		got, is := tree.Sub(x, at)
		if is != (at < len(subs)) {
			t.Fatalf("%v at %d: %t", x, at, is)
		}
		if is {
			isTree(t, got, subs[at])
		}
		least, most := s.widths()
		if a, b := tree.Widths(x); a != told(least) || b != told(most) || tree.Weight(x) != told(s.weight()) {
			t.Fatalf("%v: %d to %d, weight %d", x, a, b, tree.Weight(x))
		}
	}
}

// R2

func TestNothingBesideFalse(t *testing.T) {
	for _, x := range append(refused(), trees()...) {
		if s, is := tree.Sub(x, -1); is || s.Nodes != nil {
			t.Fatalf("%v: %v", x, s)
		}
	}
}

// R3

// guarded is x in a greater memory, whose other nodes are of Kind 77: what is written behind the tree is seen, too.
func guarded(x api.Tree) (api.Tree, []api.Node) {
	memory := append(slices.Clone(x.Nodes), slices.Repeat([]api.Node{{Kind: 77}}, 8)...)
	return api.Tree{Nodes: memory[:len(x.Nodes)]}, memory
}

func TestTreesAreTheirOwners(t *testing.T) {
	for _, given := range append(trees(), refused()...) {
		x, memory := guarded(given)
		was := slices.Clone(memory)
		l := answers(x)
		tree.Check(x)
		tree.Widths(x)
		tree.Weight(x)
		tree.Same(x, x)
		if !slices.Equal(memory, was) {
			t.Fatalf("%v was written to", given)
		}
		kept := copies(l)
		for i := range memory {
			memory[i] = api.Node{Kind: 99}
		}
		if !equal(l, kept) {
			t.Fatalf("%v: an answer changes with it", given)
		}
	}
}

func TestAnswersAreApart(t *testing.T) {
	for _, given := range append(trees(), refused()...) {
		x, memory := guarded(given)
		was := slices.Clone(memory)
		l := answers(x)
		kept := copies(l)
		for i := range l {
			whole := l[i].Nodes[:cap(l[i].Nodes)]
			for k := range whole {
				whole[k] = api.Node{Kind: 99}
			}
			if !equal(l[i+1:], kept[i+1:]) {
				t.Fatalf("%v: the answer %d shares memory with another one", given, i)
			}
			if len(l) > 100 && i > 20 {
				break // all others are parts, made as these are
			}
		}
		if !slices.Equal(memory, was) {
			t.Fatalf("%v: an answer shares memory with it", given)
		}
	}
	for _, kind := range []int{api.NdClass, api.NdRep} {
		a, b := tree.Leaf(api.Node{Kind: kind}), tree.Leaf(api.Node{Kind: kind})
		a.Nodes[0].Kind = 99
		if b.Nodes[0].Kind == 99 || tree.Leaf(api.Node{Kind: kind}).Nodes[0].Kind == 99 {
			t.Error("Leaf")
		}
	}
}

func TestPartsTellWhatWasThere(t *testing.T) {
	a, b, c := aClass('a'), aLazy(anAlt(aClass('b'), hat), 0, 1), aClass('c')
	x := aCat(aCat(a, b), c).tree()
	all := tree.Parts(x, api.NdCat)
	clear(x.Nodes)
	n := 0
	for p := range all {
		isTree(t, p, []*shape{a, b, c}[n])
		n++
	}
	if n != 3 {
		t.Error("the tree changed ahead of the loop:", n)
	}
	x, n = aCat(a, aCat(b, c)).tree(), 0
	for p := range tree.Parts(x, api.NdCat) {
		isTree(t, p, []*shape{a, b, c}[n])
		n++
		clear(x.Nodes)
		clear(p.Nodes[:cap(p.Nodes)])
	}
	if n != 3 {
		t.Error("the tree changed within the loop:", n)
	}
	// What was told is written to, and told anew all the same.
	for range 2 {
		n = 0
		for p := range all {
			isTree(t, p, []*shape{a, b, c}[n])
			n++
			clear(p.Nodes[:cap(p.Nodes)])
		}
	}
	wrong := api.Tree{Nodes: []api.Node{{Kind: 8}}}
	all = tree.Parts(wrong, api.NdAlt)
	wrong.Nodes[0].Kind = api.NdHat
	for p := range all {
		isTree(t, p, nothing)
	}
}

// R4

func TestNilAndEmptyTrees(t *testing.T) {
	none, blank := api.Tree{}, api.Tree{Nodes: []api.Node{}}
	if tree.Check(none) != tree.Check(blank) || !equal(answers(none), answers(blank)) || !tree.Same(none, blank) {
		t.Error("they are not the same")
	}
	isTree(t, tree.Mirror(none), nothing)
	isTree(t, tree.Mirror(blank), nothing)
}

// R5

func TestTheZeroTree(t *testing.T) {
	var x api.Tree
	if tree.Check(x) != api.ErrTree || tree.Weight(x) != 0 || len(tree.Clone(x).Nodes) != 0 || !tree.Same(x, x) {
		t.Error("a tree that no call made")
	}
	tells(t, x, api.NdCat, nothing)
	isTree(t, tree.Leaf(api.Node{}), nothing)
}

// R6

func TestSameCallsAnswerTheSame(t *testing.T) {
	for _, x := range append(trees(), refused()...) {
		if tree.Check(x) != tree.Check(x) || tree.Weight(x) != tree.Weight(x) || !equal(answers(x), answers(x)) {
			t.Fatalf("%v: another answer", x)
		}
		a, b := tree.Widths(x)
		if c, d := tree.Widths(x); a != c || b != d {
			t.Fatalf("%v: other widths", x)
		}
	}
}
