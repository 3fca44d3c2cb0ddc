package tree_test

import (
	"slices"
	"testing"

	"riddle/api"
	"riddle/tree"
)

func TestExamples(t *testing.T) {
	a, b, c := api.Node{Kind: api.NdClass, Class: raw('a')}, api.Node{Kind: api.NdClass, Class: raw('b')}, api.Node{Kind: api.NdClass, Class: raw('c')}
	x := tree.Join(api.NdAlt, tree.Join(api.NdCat, tree.Leaf(a), tree.Leaf(b)), tree.Leaf(c))
	cat, alt := api.Node{Kind: api.NdCat, A: 0, B: 1}, api.Node{Kind: api.NdAlt, A: 2, B: 3}
	if !slices.Equal(x.Nodes, []api.Node{a, b, cat, c, alt}) || tree.Check(x) != api.OK {
		t.Error("ab|c:", x)
	}
	if least, most := tree.Widths(x); least != 1 || most != 2 || tree.Weight(x) != 3 {
		t.Error(least, most, tree.Weight(x))
	}
	if m := tree.Mirror(x); !slices.Equal(m.Nodes, []api.Node{b, a, cat, c, alt}) {
		t.Error("its Mirror:", m)
	}
}

// P5.5

func TestOneForm(t *testing.T) {
	l := []api.Tree{tree.Leaf(api.Node{Kind: api.NdEmpty}), tree.Leaf(api.Node{Kind: api.NdClass}), tree.Leaf(api.Node{Kind: api.NdClass, Class: raw('x'), A: 5, B: 7})}
	c := chance(24)
	many := 0
	for range 6000 {
		a, b := l[c.below(len(l))], l[c.below(len(l))]
		x := tree.Join(api.NdCat+c.below(2), a, b)
		if c.below(3) == 0 {
			least := c.bound()
			x = tree.Repeat(a, least, []int{-1, max(least, c.bound())}[c.below(2)], c.below(2) == 0)
		}
		within := len(x.Nodes) <= api.MaxNodes
		if e := tree.Check(x); within && e != api.OK || !within && e != api.ErrTree {
			t.Fatalf("%d nodes: %d", len(x.Nodes), e)
		}
		if !within {
			many++
			continue
		}
		if len(l) < 400 {
			l = append(l, x)
		} else {
			l[c.below(len(l))] = x
		}
		at := c.below(len(x.Nodes))
		if s, is := tree.Sub(x, at); !is || tree.Check(s) != api.OK {
			t.Fatalf("%v at %d: %v", x, at, s)
		}
	}
	if many < 10 {
		t.Errorf("only %d had more nodes than may be", many)
	}
}

// A Sub may have an anchor where it cannot stand only if the tree has; each Sub is a tree.
func TestOneFormOfSubs(t *testing.T) {
	for _, x := range trees() {
		if len(x.Nodes) > 100 {
			continue
		}
		for at := range x.Nodes {
			s, is := tree.Sub(x, at)
			if e := tree.Check(s); !is || e == api.ErrTree || e == api.ErrAnchor && tree.Check(x) == api.OK {
				t.Fatalf("%v at %d: %v, %d", x, at, s, e)
			}
		}
	}
}

// Each tree is made again of its parts by Leaf, Join and Repeat.
func TestMadeAgain(t *testing.T) {
	for _, x := range trees() {
		if s := taken(x); !tree.Same(made(s), x) {
			t.Fatalf("%v is another one", x)
		}
	}
}

// made is s by the calls of the package.
func made(s *shape) api.Tree {
	switch s.node.Kind {
	case api.NdCat, api.NdAlt:
		return tree.Join(s.node.Kind, made(s.a), made(s.b))
	case api.NdRep:
		return tree.Repeat(made(s.a), s.node.Least, s.node.Most, s.node.Lazy)
	}
	return tree.Leaf(s.node)
}

// P5.6

func TestTurnedTwice(t *testing.T) {
	all := trees()
	for nodes := range 6 {
		each(nodes, func(s *shape) { all = append(all, s.tree()) })
	}
	other := 0
	for _, x := range all {
		m := tree.Mirror(x)
		if !tree.Same(tree.Mirror(m), x) {
			t.Fatalf("%v is not what it was", x)
		}
		if !tree.Same(m, x) {
			other++
		}
		least, most := tree.Widths(x)
		leastM, mostM := tree.Widths(m)
		if leastM != least || mostM != most || tree.Weight(m) != tree.Weight(x) || tree.Check(m) != tree.Check(x) {
			t.Fatalf("%v and %v are unlike each other", x, m)
		}
	}
	if other < 1000 {
		t.Errorf("only %d are another one when they are turned", other)
	}
}

// Mirror means the texts turned round: the classes come from behind where nothing is chosen.
func TestTurnedTexts(t *testing.T) {
	s := aCat(aCat(aClass('a'), aRep(aCat(aClass('b'), aClass('c')), 2, 2)), aCat(hat, aClass('d')))
	var l []api.Class
	for _, n := range tree.Mirror(s.tree()).Nodes {
		if n.Kind == api.NdClass {
			l = append(l, n.Class)
		}
	}
	if !slices.Equal(l, []api.Class{raw('d'), raw('c'), raw('b'), raw('a')}) {
		t.Error(l)
	}
}

// P5.7

func TestJoinedAgain(t *testing.T) {
	all := trees()
	for nodes := range 6 {
		each(nodes, func(s *shape) { all = append(all, s.tree()) })
	}
	for _, x := range all {
		for kind := range 9 {
			var again api.Tree
			for p := range tree.Parts(x, kind) {
				if again.Nodes == nil {
					again = p
				} else {
					again = tree.Join(kind, again, p)
				}
			}
			least, most := tree.Widths(x)
			leastA, mostA := tree.Widths(again)
			if leastA != least || mostA != most || tree.Weight(again) != tree.Weight(x) || len(again.Nodes) != len(x.Nodes) {
				t.Fatalf("%v and %v are unlike each other", x, again)
			}
		}
	}
}

// What is joined from the left on is so already when it is joined again.
func TestJoinedFromTheLeft(t *testing.T) {
	for _, kind := range []int{api.NdCat, api.NdAlt} {
		for _, x := range []api.Tree{row(1024, kind, true).tree(), row(1024, kind, false).tree()} {
			var again api.Tree
			for p := range tree.Parts(x, kind) {
				if again.Nodes == nil {
					again = p
				} else {
					again = tree.Join(kind, again, p)
				}
			}
			n := again.Nodes[len(again.Nodes)-1]
			if n.A != 2044 || n.B != 2045 || tree.Check(again) != api.OK {
				t.Error(n, tree.Check(again))
			}
		}
	}
}
