package tree_test

import (
	"math"
	"slices"
	"testing"

	"riddle/api"
	"riddle/tree"
)

// P5.4

func TestMirror(t *testing.T) {
	a, b, c := aClass('a'), aClass('b'), aClass('c')
	for _, x := range []struct{ s, want *shape }{
		{nothing, nothing}, {a, a}, {hat, dollar}, {dollar, hat},
		{aCat(a, b), aCat(b, a)}, {anAlt(a, b), anAlt(a, b)}, {aLazy(aCat(a, b), 2, 5), aLazy(aCat(b, a), 2, 5)},
		{aCat(aCat(a, b), c), aCat(c, aCat(b, a))}, {aCat(a, aCat(b, c)), aCat(aCat(c, b), a)},
		{anAlt(aCat(hat, a), aCat(b, dollar)), anAlt(aCat(a, dollar), aCat(hat, b))},
		{aCat(anAlt(a, b), aRep(aCat(b, c), 0, -1)), aCat(aRep(aCat(c, b), 0, -1), anAlt(a, b))},
		{aCat(a, hat), aCat(dollar, a)},
	} {
		isTree(t, tree.Mirror(x.s.tree()), x.want)
	}
}

func TestMirrorOfShapes(t *testing.T) {
	for _, x := range trees() {
		isTree(t, tree.Mirror(x), taken(x).mirror())
	}
}

func TestMirrorOfWhatMayNotBe(t *testing.T) {
	for _, x := range refused() {
		isTree(t, tree.Mirror(x), nothing)
	}
}

// tells fails unless Parts goes through just these.
func tells(t *testing.T, x api.Tree, kind int, want ...*shape) {
	t.Helper()
	n := 0
	for p := range tree.Parts(x, kind) {
		if n == len(want) {
			t.Fatalf("%v: more than %d parts", x, n)
		}
		isTree(t, p, want[n])
		n++
	}
	if n != len(want) {
		t.Fatalf("%v: %d parts, not %d", x, n, len(want))
	}
}

func TestParts(t *testing.T) {
	a, b, c, d := aClass('a'), aClass('b'), aClass('c'), aClass('d')
	for _, x := range []struct {
		join        func(a, b *shape) *shape
		kind, other int
	}{{aCat, api.NdCat, api.NdAlt}, {anAlt, api.NdAlt, api.NdCat}} {
		for _, s := range []*shape{x.join(x.join(x.join(a, b), c), d), x.join(a, x.join(b, x.join(c, d))), x.join(x.join(a, b), x.join(c, d)), x.join(a, x.join(x.join(b, c), d))} {
			tells(t, s.tree(), x.kind, a, b, c, d)
			tells(t, s.tree(), x.other, s)
		}
		tells(t, x.join(a, b).tree(), x.kind, a, b)
		tells(t, x.join(nothing, hat).tree(), x.kind, nothing, hat)
		// What another node holds is one part.
		closed := aLazy(x.join(a, b), 1, 3)
		tells(t, x.join(closed, x.join(c, closed)).tree(), x.kind, closed, c, closed)
		tells(t, closed.tree(), x.kind, closed)
	}
	tells(t, aCat(anAlt(a, aCat(b, c)), aCat(d, a)).tree(), api.NdCat, anAlt(a, aCat(b, c)), d, a)
	tells(t, anAlt(aCat(a, anAlt(b, c)), anAlt(d, a)).tree(), api.NdAlt, aCat(a, anAlt(b, c)), d, a)
}

func TestPartsOfLeaves(t *testing.T) {
	for _, s := range []*shape{nothing, hat, dollar, aClass('a'), aClass()} {
		tells(t, s.tree(), api.NdCat, s)
		tells(t, s.tree(), api.NdAlt, s)
	}
}

// No root joins anything by another kind.
func TestPartsOfOtherKinds(t *testing.T) {
	for _, s := range append(someShapes(), aRep(aClass('a'), 0, -1), aRep(aRep(aClass('a'), 0, -1), 2, 3)) {
		for _, kind := range []int{0, api.NdEmpty, api.NdClass, api.NdRep, api.NdHat, api.NdDollar, -1, 8, math.MinInt, math.MaxInt} {
			tells(t, s.tree(), kind, s)
		}
	}
}

func TestPartsOfShapes(t *testing.T) {
	most := 0
	for _, x := range trees() {
		for _, kind := range []int{api.NdCat, api.NdAlt} {
			want := taken(x).parts(kind)
			tells(t, x, kind, want...)
			most = max(most, len(want))
		}
	}
	if most != 1024 {
		t.Errorf("%d parts at most", most)
	}
}

func TestPartsOfWhatMayNotBe(t *testing.T) {
	for _, x := range refused() {
		tells(t, x, api.NdCat, nothing)
		tells(t, x, api.NdAlt, nothing)
		tells(t, x, api.NdRep, nothing)
	}
}

func TestPartsStopAndBeginAnew(t *testing.T) {
	a, b, c, d := aClass('a'), aRep(aClass('b'), 0, 1), anAlt(aClass('c'), hat), aClass('d')
	want := []*shape{a, b, c, d}
	for _, s := range []*shape{aCat(aCat(aCat(a, b), c), d), aCat(a, aCat(b, aCat(c, d)))} {
		all := tree.Parts(s.tree(), api.NdCat)
		for stop := range len(want) + 1 {
			n := 0
			for p := range all {
				if n == stop {
					break
				}
				isTree(t, p, want[n])
				n++
			}
			if n != stop {
				t.Errorf("stopped at %d, not %d", n, stop)
			}
		}
		many := 0
		for range all {
			for p := range all {
				many++
				if len(p.Nodes) == 2 {
					break
				}
			}
		}
		if many != 8 {
			t.Errorf("%d within each other", many)
		}
		if n := len(slices.Collect(all)); n != 4 {
			t.Errorf("%d anew", n)
		}
	}
}

func TestSame(t *testing.T) {
	var all []api.Tree
	for nodes := range 4 {
		each(nodes, func(s *shape) { all = append(all, s.tree()) })
	}
	all = append(all, misplaced()...)
	for i, a := range all {
		for j, b := range all {
			want := len(a.Nodes) == len(b.Nodes)
			for k := 0; want && k < len(a.Nodes); k++ {
				want = a.Nodes[k] == b.Nodes[k]
			}
			if got := tree.Same(a, b); got != want || i == j && !got {
				t.Fatalf("%v, %v: %t", a, b, got)
			}
		}
	}
}

func TestSameButForOneField(t *testing.T) {
	n := api.Node{Kind: 2, Class: raw(4), A: 3, B: 4, Least: 5, Most: 6, Lazy: true}
	for i, change := range []func(n *api.Node){
		func(n *api.Node) { n.Kind = 1 },
		func(n *api.Node) { n.Class[3] = 1 },
		func(n *api.Node) { n.A = 0 },
		func(n *api.Node) { n.B = 3 },
		func(n *api.Node) { n.Least = 4 },
		func(n *api.Node) { n.Most = -1 },
		func(n *api.Node) { n.Lazy = false },
	} {
		for at := range 3 {
			x, y := api.Tree{Nodes: []api.Node{n, n, n}}, api.Tree{Nodes: []api.Node{n, n, n}}
			if !tree.Same(x, y) {
				t.Fatal("not the same")
			}
			change(&y.Nodes[at])
			if tree.Same(x, y) || tree.Same(y, x) {
				t.Errorf("field %d of node %d is not looked at", i, at)
			}
		}
	}
}

func TestSameOfOtherLengths(t *testing.T) {
	leaf := api.Node{Kind: api.NdEmpty}
	one, two := api.Tree{Nodes: []api.Node{leaf}}, api.Tree{Nodes: []api.Node{leaf, leaf}}
	none, blank := api.Tree{}, api.Tree{Nodes: []api.Node{}}
	if tree.Same(one, two) || tree.Same(two, one) || tree.Same(none, one) || tree.Same(one, blank) {
		t.Error("trees of other lengths are the same")
	}
	if !tree.Same(none, blank) || !tree.Same(blank, none) || !tree.Same(none, none) || !tree.Same(blank, blank) {
		t.Error("empty and nil are not the same")
	}
	// A tree that may not be is no NdEmpty here.
	if tree.Same(none, one) || tree.Same(two, one) {
		t.Error("a tree is not taken as it is")
	}
}

func TestClone(t *testing.T) {
	for _, x := range append(trees(), refused()...) {
		if got := tree.Clone(x); !slices.Equal(got.Nodes, x.Nodes) {
			t.Fatalf("%v, not %v", got, x)
		}
	}
	long := api.Tree{Nodes: make([]api.Node, 3*api.MaxNodes)}
	long.Nodes[5000].Most = 9
	if got := tree.Clone(long); !slices.Equal(got.Nodes, long.Nodes) {
		t.Error("a long one")
	}
	if len(tree.Clone(api.Tree{}).Nodes) != 0 || len(tree.Clone(api.Tree{Nodes: []api.Node{}}).Nodes) != 0 {
		t.Error("one of no nodes")
	}
}
