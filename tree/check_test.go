package tree_test

import (
	"math"
	"slices"
	"testing"

	"riddle/api"
	"riddle/tree"
)

// P5.1

func TestCheckRefuses(t *testing.T) {
	for _, x := range refused() {
		if e := tree.Check(x); e != api.ErrTree {
			t.Errorf("%v: %d", x, e)
		}
	}
}

func TestCheckOfNoNode(t *testing.T) {
	if a, b := tree.Check(api.Tree{}), tree.Check(api.Tree{Nodes: []api.Node{}}); a != api.ErrTree || b != api.ErrTree {
		t.Error(a, b)
	}
}

func TestCheckOfEachKind(t *testing.T) {
	for kind := -3; kind < 300; kind++ {
		want := api.ErrTree
		if kind == api.NdEmpty || kind == api.NdClass || kind == api.NdHat || kind == api.NdDollar {
			want = api.OK
		}
		if e := tree.Check(api.Tree{Nodes: []api.Node{{Kind: kind}}}); e != want {
			t.Errorf("kind %d: %d", kind, e)
		}
	}
}

func TestCheckOfFieldsThatAKindHasNot(t *testing.T) {
	changes := []func(n *api.Node){
		func(n *api.Node) { n.Class[0] = 1 },
		func(n *api.Node) { n.Class[3] = 1 << 63 },
		func(n *api.Node) { n.B = 1 },
		func(n *api.Node) { n.A = -1 },
		func(n *api.Node) { n.Least = 1 },
		func(n *api.Node) { n.Most = 1 },
		func(n *api.Node) { n.Most = -1 },
		func(n *api.Node) { n.Lazy = true },
	}
	// By the numbers of the changes: which of them leave a tree that may be.
	for _, x := range []struct {
		s    *shape
		mays []int
	}{
		{nothing, nil}, {hat, nil}, {dollar, nil}, {aClass('a'), []int{0, 1}},
		{aCat(aClass('a'), aClass('b')), []int{2}}, {anAlt(aClass('a'), aClass('b')), []int{2}},
		{aRep(aClass('a'), 0, 1), []int{4, 5, 6, 7}},
	} {
		for i, change := range changes {
			y := x.s.tree()
			change(&y.Nodes[len(y.Nodes)-1])
			want := api.ErrTree
			if slices.Contains(x.mays, i) {
				want = api.OK
			}
			if e := tree.Check(y); e != want {
				t.Errorf("%v: %d, not %d", y, e, want)
			}
		}
	}
}

func TestCheckOfEachPlaceOfParts(t *testing.T) {
	ahead := [][]api.Node{nil, aClass('a').write(nil), aClass('b').write(aClass('a').write(nil)), aCat(aClass('b'), aClass('c')).write(aClass('a').write(nil)), aClass('c').write(aCat(aClass('a'), aClass('b')).write(nil)), aCat(aClass('a'), aClass('b')).write(nil), aRep(aClass('b'), 0, -1).write(aClass('a').write(nil))}
	edges := []int{math.MinInt, -3, -2, -1, 0, 1, 2, 3, 4, 5, 6, math.MaxInt}
	may := 0
	for _, l := range ahead {
		for _, a := range edges {
			for _, b := range edges {
				for _, kind := range []int{api.NdCat, api.NdAlt, api.NdRep} {
					x := api.Tree{Nodes: append(slices.Clone(l), api.Node{Kind: kind, A: a, B: b})}
					want := errorOf(x)
					if e := tree.Check(x); e != want {
						t.Errorf("%v: %d, not %d", x, e, want)
					}
					if want == api.OK {
						may++
					}
				}
			}
		}
	}
	// Of four of the beginnings there is one place for each of an NdCat and an NdAlt, of two there is one for an NdRep.
	if may != 4*2+2 {
		t.Errorf("%d may be", may)
	}
}

func TestCheckOfEachRepeat(t *testing.T) {
	ends := []int{math.MinInt, -1001, -2, -1, 0, 1, 2, 500, 999, 1000, 1001, 1002, math.MaxInt}
	for _, least := range ends {
		for _, most := range ends {
			want := api.ErrTree
			if least >= 0 && least <= 1000 && (most == -1 || most >= least && most <= 1000) {
				want = api.OK
			}
			for _, s := range []*shape{aRep(aClass('a'), least, most), aLazy(aClass('a'), least, most), aCat(aRep(nothing, least, most), aClass('b'))} {
				if e := tree.Check(s.tree()); e != want {
					t.Errorf("%d to %d: %d, not %d", least, most, e, want)
				}
			}
		}
	}
}

func TestCheckOfNodesLeftOver(t *testing.T) {
	for _, a := range []*shape{nothing, aClass('a'), aCat(aClass('a'), aClass('b')), aRep(aClass('a'), 0, -1), hat} {
		for _, b := range []*shape{nothing, aClass('a'), anAlt(aClass('a'), aClass('b')), aRep(aClass('a'), 0, -1), dollar} {
			if e := tree.Check(api.Tree{Nodes: b.write(a.write(nil))}); e != api.ErrTree {
				t.Errorf("%v and %v: %d", a, b, e)
			}
		}
	}
}

func TestCheckAtMaxNodes(t *testing.T) {
	for _, s := range great() {
		x := s.tree()
		if len(x.Nodes) != api.MaxNodes || tree.Check(x) != api.OK {
			t.Errorf("%d nodes: %d", len(x.Nodes), tree.Check(x))
		}
		y := aRep(s, 0, 1).tree()
		if len(y.Nodes) != api.MaxNodes+1 || tree.Check(y) != api.ErrTree {
			t.Errorf("%d nodes: %d", len(y.Nodes), tree.Check(y))
		}
	}
	if e := tree.Check(api.Tree{Nodes: make([]api.Node, 1<<20)}); e != api.ErrTree {
		t.Error(e)
	}
}

// Where anchors may stand

func TestAnchorsWhereTheyMayStand(t *testing.T) {
	a, b := aClass('a'), aClass('b')
	for _, s := range []*shape{
		hat, dollar, aCat(hat, a), aCat(a, dollar), aCat(hat, dollar), anAlt(hat, a), anAlt(a, hat), anAlt(dollar, a), anAlt(a, dollar), anAlt(hat, dollar), anAlt(dollar, hat),
		aCat(aCat(hat, a), b), aCat(a, aCat(b, dollar)), aCat(aCat(aCat(hat, a), b), dollar), aCat(hat, aCat(a, dollar)),
		aCat(anAlt(a, hat), b), aCat(anAlt(hat, a), b), aCat(a, anAlt(b, dollar)), aCat(a, anAlt(dollar, b)), anAlt(aCat(hat, a), aCat(b, dollar)), anAlt(aCat(a, dollar), aCat(hat, b)),
		aCat(anAlt(hat, hat), anAlt(dollar, dollar)), anAlt(anAlt(hat, dollar), anAlt(dollar, hat)),
	} {
		if e := tree.Check(s.tree()); e != api.OK {
			t.Errorf("%v: %d", s.tree(), e)
		}
	}
}

func TestAnchorsWhereTheyCannotStand(t *testing.T) {
	a, b := aClass('a'), aClass('b')
	for _, s := range []*shape{
		aCat(a, hat), aCat(dollar, a), aCat(nothing, hat), aCat(dollar, nothing), aCat(hat, hat), aCat(dollar, dollar), aCat(dollar, hat),
		aRep(hat, 0, 1), aRep(dollar, 0, 1), aRep(hat, 1, 1), aRep(dollar, 1, 1), aRep(hat, 0, 0), aLazy(dollar, 0, -1),
		aRep(aCat(hat, a), 0, -1), aRep(aCat(a, dollar), 0, -1), aRep(anAlt(hat, a), 1, 1), aRep(anAlt(a, dollar), 1, 1), aCat(aRep(hat, 0, 1), a), aCat(a, aRep(dollar, 0, 1)), anAlt(a, aRep(hat, 0, 1)),
		aCat(a, aCat(hat, b)), aCat(aCat(a, dollar), b), aCat(aCat(a, hat), b), aCat(a, aCat(dollar, b)), aCat(a, anAlt(hat, b)), aCat(a, anAlt(b, hat)), aCat(anAlt(dollar, b), a), aCat(anAlt(b, dollar), a),
		anAlt(a, aCat(b, hat)), anAlt(aCat(dollar, b), a), aCat(aCat(hat, hat), a), aCat(a, aCat(dollar, dollar)), anAlt(aCat(hat, a), aCat(b, hat)), anAlt(aCat(a, hat), aCat(hat, b)),
		aRep(aRep(hat, 0, 1), 0, 1), aCat(hat, aRep(aCat(a, dollar), 0, 1)), aCat(aRep(aCat(hat, a), 0, 1), dollar),
	} {
		if e := tree.Check(s.tree()); e != api.ErrAnchor {
			t.Errorf("%v: %d", s.tree(), e)
		}
	}
}

func TestErrTreeIsAheadOfErrAnchor(t *testing.T) {
	for _, s := range []*shape{aCat(aClass('a'), aRep(hat, 3, 2)), aCat(aCat(aClass('a'), hat), &shape{node: api.Node{Kind: 8}}), aRep(aCat(dollar, aClass()), 0, 1001)} {
		if e := tree.Check(s.tree()); e != api.ErrTree {
			t.Errorf("%v: %d", s.tree(), e)
		}
	}
	wrong := aCat(aClass('a'), hat)
	if e := tree.Check(api.Tree{Nodes: aClass('b').write(wrong.write(nil))}); e != api.ErrTree {
		t.Error("nodes left over:", e)
	}
	if e := tree.Check(aRep(aCat(row(1023, api.NdCat, true), hat), 0, 1).tree()); e != api.ErrAnchor {
		t.Error("2,048 nodes:", e)
	}
	if e := tree.Check(aRep(aRep(aCat(row(1023, api.NdCat, true), hat), 0, 1), 0, 1).tree()); e != api.ErrTree {
		t.Error("2,049 nodes:", e)
	}
}

func TestAnchorsDeepInATree(t *testing.T) {
	for _, kind := range []int{api.NdCat, api.NdAlt} {
		for _, anchor := range []*shape{hat, dollar} {
			first, last := anchor, anchor
			for range 1023 {
				first = &shape{node: api.Node{Kind: kind}, a: first, b: aClass('a')}
				last = &shape{node: api.Node{Kind: kind}, a: aClass('a'), b: last}
			}
			for _, s := range []*shape{first, last} {
				if e := tree.Check(s.tree()); e != errorOf(s.tree()) {
					t.Errorf("kind %d, anchor %d: %d", kind, anchor.node.Kind, e)
				}
			}
		}
	}
}

// Against the shapes

func TestCheckOfAllSmallTrees(t *testing.T) {
	by := map[api.Errno]int{}
	for nodes := range 7 {
		each(nodes, func(s *shape) {
			x := s.tree()
			want := errorOf(x)
			by[want]++
			if e := tree.Check(x); e != want {
				t.Fatalf("%v: %d, not %d", x, e, want)
			}
		})
	}
	if by[api.OK] < 10000 || by[api.ErrAnchor] < 10000 || by[api.ErrTree] > 0 {
		t.Error(by)
	}
}

func TestCheckOfAllShortLists(t *testing.T) {
	alphabet := []api.Node{{Kind: api.NdEmpty}, {Kind: api.NdClass, Class: raw('a')}, {Kind: api.NdHat}, {Kind: api.NdDollar}, {Kind: 0}}
	for a := -1; a < 3; a++ {
		alphabet = append(alphabet, api.Node{Kind: api.NdRep, A: a, Most: -1})
		for b := range 3 {
			alphabet = append(alphabet, api.Node{Kind: api.NdCat, A: a, B: b}, api.Node{Kind: api.NdAlt, A: a, B: b})
		}
	}
	by := map[api.Errno]int{}
	var grow func(l []api.Node)
	grow = func(l []api.Node) {
		x := api.Tree{Nodes: l}
		want := errorOf(x)
		by[want]++
		if e := tree.Check(x); e != want {
			t.Fatalf("%v: %d, not %d", x, e, want)
		}
		if len(l) == 4 {
			return
		}
		for _, n := range alphabet {
			grow(append(l[:len(l):len(l)], n))
		}
	}
	grow(nil)
	if by[api.OK] < 50 || by[api.ErrAnchor] < 40 {
		t.Error(by)
	}
}

func TestCheckOfDamagedTrees(t *testing.T) {
	c := chance(22)
	by := map[api.Errno]int{}
	for range 40000 {
		x := c.shape(1 + c.below(15)).tree()
		for range 1 + c.below(2) {
			if len(x.Nodes) > 0 {
				x = c.damaged(x)
			}
		}
		want := errorOf(x)
		by[want]++
		if e := tree.Check(x); e != want {
			t.Fatalf("%v: %d, not %d", x, e, want)
		}
	}
	for _, e := range []api.Errno{api.OK, api.ErrTree, api.ErrAnchor} {
		if by[e] < 1000 {
			t.Errorf("only %d have the error %d", by[e], e)
		}
	}
}
