package tree_test

import (
	"math"
	"testing"

	"riddle/api"
	"riddle/tree"
)

// isTree fails unless got has just the nodes of s.
func isTree(t *testing.T, got api.Tree, s *shape) {
	t.Helper()
	want := s.tree()
	same := len(got.Nodes) == len(want.Nodes)
	for i := 0; same && i < len(want.Nodes); i++ {
		same = got.Nodes[i] == want.Nodes[i]
	}
	if !same {
		t.Fatalf("%v, not %v", got, want)
	}
}

// P5.2

func TestLeaf(t *testing.T) {
	isTree(t, tree.Leaf(api.Node{Kind: api.NdEmpty}), nothing)
	isTree(t, tree.Leaf(api.Node{Kind: api.NdHat}), hat)
	isTree(t, tree.Leaf(api.Node{Kind: api.NdDollar}), dollar)
	isTree(t, tree.Leaf(api.Node{Kind: api.NdClass}), aClass())
	for b := range 256 {
		isTree(t, tree.Leaf(api.Node{Kind: api.NdClass, Class: raw(byte(b))}), aClass(byte(b)))
	}
}

func TestLeafHasNoParts(t *testing.T) {
	for _, kind := range []int{api.NdEmpty, api.NdClass, api.NdHat, api.NdDollar} {
		for _, k := range []int{math.MinInt, -1, 1, 7, math.MaxInt} {
			isTree(t, tree.Leaf(api.Node{Kind: kind, A: k}), aKind(kind))
			isTree(t, tree.Leaf(api.Node{Kind: kind, B: k}), aKind(kind))
			isTree(t, tree.Leaf(api.Node{Kind: kind, A: k, B: -k}), aKind(kind))
		}
	}
}

// What else a node has is left as it is, so that Check can tell of it.
func TestLeafOfOtherFields(t *testing.T) {
	for _, kind := range []int{api.NdEmpty, api.NdClass, api.NdHat, api.NdDollar} {
		n := api.Node{Kind: kind, Class: raw('a'), Least: 2, Most: -5, Lazy: true}
		isTree(t, tree.Leaf(n), &shape{node: n})
		if e := tree.Check(tree.Leaf(n)); e != api.ErrTree {
			t.Errorf("kind %d: %d", kind, e)
		}
	}
}

func TestLeafOfOtherKinds(t *testing.T) {
	for _, kind := range []int{api.NdCat, api.NdAlt, api.NdRep, 0, -1, 8, 9, 258, math.MinInt, math.MaxInt} {
		isTree(t, tree.Leaf(api.Node{Kind: kind}), nothing)
		isTree(t, tree.Leaf(api.Node{Kind: kind, Class: raw('a'), A: 1, B: 2, Least: 1, Most: 2, Lazy: true}), nothing)
	}
}

func TestJoin(t *testing.T) {
	for _, x := range someShapes() {
		for _, y := range someShapes() {
			isTree(t, tree.Join(api.NdCat, x.tree(), y.tree()), aCat(x, y))
			isTree(t, tree.Join(api.NdAlt, x.tree(), y.tree()), anAlt(x, y))
		}
	}
}

// someShapes are shapes of each kind, some with anchors where they cannot stand.
func someShapes() []*shape {
	c := chance(23)
	l := []*shape{nothing, hat, dollar, aClass('a'), aClass(), aCat(aClass('a'), aClass('b')), aCat(aClass('a'), hat), anAlt(hat, dollar), aRep(dollar, 0, 0), aLazy(aClass('x'), 3, -1)}
	for range 40 {
		l = append(l, c.shape(1+c.below(20)))
	}
	return l
}

func TestJoinOfOtherKinds(t *testing.T) {
	a, b := aClass('a').tree(), aClass('b').tree()
	for _, kind := range []int{0, api.NdEmpty, api.NdClass, api.NdRep, api.NdHat, api.NdDollar, -1, 8, 259, math.MinInt, math.MaxInt} {
		isTree(t, tree.Join(kind, a, b), nothing)
		isTree(t, tree.Join(kind, api.Tree{}, api.Tree{}), nothing)
	}
}

func TestJoinOfWhatMayNotBe(t *testing.T) {
	x := aRep(aClass('a'), 1, 2)
	for _, wrong := range refused() {
		isTree(t, tree.Join(api.NdCat, wrong, x.tree()), aCat(nothing, x))
		isTree(t, tree.Join(api.NdAlt, x.tree(), wrong), anAlt(x, nothing))
		isTree(t, tree.Join(api.NdCat, wrong, wrong), aCat(nothing, nothing))
	}
}

func TestRepeat(t *testing.T) {
	edges := []int{math.MinInt, -2, -1, 0, 1, 2, 999, 1000, 1001, math.MaxInt}
	for _, x := range someShapes() {
		for _, least := range edges {
			for _, most := range edges {
				isTree(t, tree.Repeat(x.tree(), least, most, false), aRep(x, least, most))
				isTree(t, tree.Repeat(x.tree(), least, most, true), aLazy(x, least, most))
			}
		}
	}
}

func TestRepeatOfBoundsThatMayNotBe(t *testing.T) {
	for _, b := range wrongBounds() {
		x := tree.Repeat(aClass('a').tree(), b.least, b.most, false)
		isTree(t, x, aRep(aClass('a'), b.least, b.most))
		if e := tree.Check(x); e != api.ErrTree {
			t.Errorf("%d to %d: %d", b.least, b.most, e)
		}
		// It is taken as nothing when it is handed in again.
		isTree(t, tree.Repeat(x, 0, 1, true), aLazy(nothing, 0, 1))
	}
}

func TestRepeatOfWhatMayNotBe(t *testing.T) {
	for _, wrong := range refused() {
		isTree(t, tree.Repeat(wrong, 2, 3, true), aLazy(nothing, 2, 3))
	}
}

func TestMadeAboveMaxNodes(t *testing.T) {
	for _, s := range great() {
		for _, made := range []struct {
			got  api.Tree
			want *shape
		}{
			{tree.Repeat(s.tree(), 0, 1, false), aRep(s, 0, 1)},
			{tree.Join(api.NdCat, s.tree(), aClass('c').tree()), aCat(s, aClass('c'))},
			{tree.Join(api.NdAlt, aClass('c').tree(), s.tree()), anAlt(aClass('c'), s)},
			{tree.Join(api.NdCat, s.tree(), s.tree()), aCat(s, s)},
		} {
			isTree(t, made.got, made.want)
			if e := tree.Check(made.got); e != api.ErrTree {
				t.Fatalf("%d nodes: %d", len(made.got.Nodes), e)
			}
			isTree(t, tree.Join(api.NdAlt, made.got, hat.tree()), anAlt(nothing, hat))
		}
	}
	// 2,047 nodes and one more are MaxNodes.
	odd := row(1024, api.NdCat, false)
	if x := tree.Repeat(odd.tree(), 0, 1, false); len(x.Nodes) != api.MaxNodes || tree.Check(x) != api.OK {
		t.Error(len(x.Nodes), tree.Check(x))
	}
	if x := tree.Join(api.NdCat, row(1023, api.NdCat, true).tree(), aRep(aClass('a'), 0, 1).tree()); len(x.Nodes) != api.MaxNodes || tree.Check(x) != api.OK {
		t.Error(len(x.Nodes), tree.Check(x))
	}
}

func TestSub(t *testing.T) {
	for _, x := range trees() {
		if len(x.Nodes) > 1000 {
			continue
		}
		for at, s := range taken(x).subs() {
			got, is := tree.Sub(x, at)
			if !is {
				t.Fatalf("%v has no place %d", x, at)
			}
			isTree(t, got, s)
		}
	}
}

func TestSubOfGreatTrees(t *testing.T) {
	for _, s := range great() {
		x, subs := s.tree(), s.subs()
		for _, at := range []int{0, 1, 2, 3, 1000, 1001, 1002, 2045, 2046, 2047} {
			got, is := tree.Sub(x, at)
			if !is {
				t.Fatalf("no place %d", at)
			}
			isTree(t, got, subs[at])
		}
	}
}

func TestSubAtPlacesThatThereAreNot(t *testing.T) {
	for _, s := range append(someShapes(), great()...) {
		x := s.tree()
		for _, at := range []int{math.MinInt, -2048, -2, -1, len(x.Nodes), len(x.Nodes) + 1, 4096, math.MaxInt} {
			if got, is := tree.Sub(x, at); is || got.Nodes != nil {
				t.Fatalf("%v at %d: %v, %t", x, at, got, is)
			}
		}
	}
}

func TestSubOfWhatMayNotBe(t *testing.T) {
	for _, wrong := range refused() {
		got, is := tree.Sub(wrong, 0)
		if !is {
			t.Fatalf("%v has no node", wrong)
		}
		isTree(t, got, nothing)
		for _, at := range []int{-1, 1, len(wrong.Nodes) - 1, len(wrong.Nodes)} {
			if at == 0 {
				continue
			}
			if got, is := tree.Sub(wrong, at); is || got.Nodes != nil {
				t.Fatalf("%v at %d: %v", wrong, at, got)
			}
		}
	}
}
