package glushkov_test

import (
	"math"
	"slices"
	"testing"

	"riddle/api"
	"riddle/glushkov"
	"riddle/normal"
	"riddle/parse"
	"riddle/tree"
)

// P10.3: Of

// read is the tree of a pattern, unrolled.
func read(t *testing.T, p string) api.Tree {
	t.Helper()
	x, _, e := parse.Parse([]byte(p), api.Flags{})
	if e != api.OK {
		t.Fatal(p, e)
	}
	x, e = normal.Unroll(x)
	if e != api.OK {
		t.Fatal(p, e)
	}
	return x
}

func TestExample(t *testing.T) {
	n, e := glushkov.Of(read(t, "(ab)*"))
	isNfa(t, "(ab)*", n, e, nfa("ab", true, []int{0}, []int{1}, [2]int{0, 1}, [2]int{1, 0}))
}

func TestOfByHand(t *testing.T) {
	for _, x := range []struct {
		pattern string
		want    api.Nfa
	}{
		{"", nfa("", true, nil, nil)},
		{"a", nfa("a", false, []int{0}, []int{0})},
		{"ab", nfa("ab", false, []int{0}, []int{1}, [2]int{0, 1})},
		{"a|b", nfa("ab", false, []int{0, 1}, []int{0, 1})},
		{"a*", nfa("a", true, []int{0}, []int{0}, [2]int{0, 0})},
		{"a?b", nfa("ab", false, []int{0, 1}, []int{1}, [2]int{0, 1})},
		{"ab?", nfa("ab", false, []int{0}, []int{0, 1}, [2]int{0, 1})},
		{"a+", nfa("aa", false, []int{0}, []int{0, 1}, [2]int{0, 1}, [2]int{1, 1})},
		{"ab+c", nfa("abbc", false, []int{0}, []int{3}, [2]int{0, 1}, [2]int{1, 2}, [2]int{1, 3}, [2]int{2, 2}, [2]int{2, 3})},
		{"a{2,3}", nfa("aaa", false, []int{0}, []int{1, 2}, [2]int{0, 1}, [2]int{1, 2})},
		{"(?:ab|c)*d{1,2}", nfa("abcdd", false, []int{0, 2, 3}, []int{3, 4}, [2]int{0, 1}, [2]int{1, 0}, [2]int{1, 2}, [2]int{1, 3}, [2]int{2, 0}, [2]int{2, 2}, [2]int{2, 3}, [2]int{3, 4})},
		{"a*b*", nfa("ab", true, []int{0, 1}, []int{0, 1}, [2]int{0, 0}, [2]int{0, 1}, [2]int{1, 1})},
		{"(?:a*b*)*", nfa("ab", true, []int{0, 1}, []int{0, 1}, [2]int{0, 0}, [2]int{0, 1}, [2]int{1, 0}, [2]int{1, 1})},
		{"a(?:b|)c", nfa("abc", false, []int{0}, []int{2}, [2]int{0, 1}, [2]int{0, 2}, [2]int{1, 2})},
	} {
		n, e := glushkov.Of(read(t, x.pattern))
		isNfa(t, x.pattern, n, e, x.want)
	}
}

// isOf fails unless Of answers of s what the chapter's words come to.
func isOf(t *testing.T, s *shape) {
	t.Helper()
	n, e := glushkov.Of(s.tree())
	isNfa(t, s.brief(), n, e, s.machine(t).nfa())
}

func TestOfEachKind(t *testing.T) {
	for _, s := range []*shape{empty, a, ab, never, cat(a, b), alt(a, b), star(a), star(empty), star(never), cat(empty, empty), alt(empty, empty), cat(never, a), alt(never, empty), star(star(cat(a, star(b)))), cat(cat(a, b), c), cat(a, cat(b, c)), alt(cat(a, empty), cat(empty, b))} {
		isOf(t, s)
	}
}

func TestOfSmallShapes(t *testing.T) {
	many := 0
	for nodes := 1; nodes <= 7; nodes++ {
		each(nodes, []*shape{empty, a, b}, func(s *shape) {
			isOf(t, s)
			many++
		})
	}
	if many < 5000 {
		t.Error(many)
	}
}

func TestOfShapes(t *testing.T) {
	r := chance(21)
	positions := 0
	for range 3000 {
		s := r.shape(1 + r.below(60))
		isOf(t, s)
		positions += len(s.classes())
	}
	for range 20 {
		s := r.shape(300 + r.below(200))
		isOf(t, s)
		positions += len(s.classes())
	}
	if positions < 20000 {
		t.Error(positions)
	}
}

// joined is node by node what Of must be, by the calls of the package.
func (s *shape) joined(t *testing.T) api.Nfa {
	t.Helper()
	var n api.Nfa
	e := api.OK
	switch s.node.Kind {
	case api.NdEmpty:
		n = glushkov.Empty()
	case api.NdClass:
		n = glushkov.Leaf(s.node.Class)
	case api.NdCat:
		n, e = glushkov.Cat(s.a.joined(t), s.b.joined(t))
	case api.NdAlt:
		n, e = glushkov.Alt(s.a.joined(t), s.b.joined(t))
	case api.NdRep:
		n, e = glushkov.Star(s.a.joined(t))
	default:
		t.Fatalf("a node of kind %d", s.node.Kind)
	}
	if e != api.OK {
		t.Fatal(s.brief(), e)
	}
	return n
}

func TestOfIsNodeByNode(t *testing.T) {
	for _, s := range great() {
		n, e := glushkov.Of(s.tree())
		isNfa(t, s.brief(), n, e, s.joined(t))
	}
	r := chance(22)
	for range 500 {
		s := r.shape(1 + r.below(80))
		n, e := glushkov.Of(s.tree())
		isNfa(t, s.brief(), n, e, s.joined(t))
	}
}

func TestOfGreatShapes(t *testing.T) {
	for _, kind := range []int{api.NdCat, api.NdAlt} {
		for _, leaf := range []*shape{a, star(a), alt(empty, a)} {
			isOf(t, row(129, kind, leaf, true))
			isOf(t, row(129, kind, leaf, false))
		}
	}
	// By hand: each of 512 follows the one ahead; or any.
	n, e := glushkov.Of(row(512, api.NdCat, a, true).tree())
	m := blank(512)
	m.first[0], m.last[511] = true, true
	for p := range 512 {
		m.classes[p] = raw('a')
		if p > 0 {
			m.follow[p-1][p] = true
		}
	}
	isNfa(t, "512 in a row", n, e, m.nfa())
	n, e = glushkov.Of(pile(3, row(512, api.NdAlt, a, false)).tree())
	m.null = true
	for p := range 512 {
		m.first[p], m.last[p] = true, true
		for q := range 512 {
			m.follow[p][q] = true
		}
	}
	isNfa(t, "512 again and again", n, e, m.nfa())
}

func ofRefuses(t *testing.T, x api.Tree, want api.Errno) {
	t.Helper()
	n, e := glushkov.Of(x)
	isError(t, "Of", n, e, want)
}

// refused are trees with ErrTree.
func refused() []api.Tree {
	class := a.node
	l := []api.Tree{{}, {Nodes: []api.Node{}}}
	add := func(nodes ...api.Node) { l = append(l, api.Tree{Nodes: nodes}) }
	for _, kind := range []int{math.MinInt, -1, 0, 8, math.MaxInt, api.NdCat, api.NdAlt} {
		add(api.Node{Kind: kind})
		add(class, api.Node{Kind: kind})
	}
	add(api.Node{Kind: api.NdRep, Most: -1})
	add(api.Node{Kind: api.NdEmpty, A: 1})
	add(api.Node{Kind: api.NdClass, Class: raw('a'), Most: -1})
	add(class, class)
	add(class, class, api.Node{Kind: api.NdCat, A: 1, B: 0})
	add(class, class, api.Node{Kind: api.NdCat, A: 0, B: 2})
	add(class, class, api.Node{Kind: api.NdRep, A: 1, Most: -1})
	add(class, api.Node{Kind: api.NdRep, A: 1, Most: -1})
	for _, n := range []api.Node{{Least: -1, Most: -1}, {Most: -2}, {Least: 2, Most: 1}, {Most: 1001}} {
		n.Kind = api.NdRep
		add(class, n)
	}
	return append(l, pile(2048, a).tree(), row(1025, api.NdCat, empty, true).tree(), row(1025, api.NdCat, a, true).tree())
}

func TestOfWhatIsNoTree(t *testing.T) {
	for _, x := range refused() {
		if e := tree.Check(x); e != api.ErrTree {
			t.Fatal(e)
		}
		ofRefuses(t, x, api.ErrArg)
	}
}

func TestOfCountedRepeats(t *testing.T) {
	for _, x := range [][2]int{{0, 0}, {0, 1}, {1, 1}, {1, -1}, {2, 5}, {0, 1000}, {1000, 1000}, {1000, -1}} {
		for _, s := range []*shape{rep(a, x[0], x[1]), lazy(a, x[0], x[1]), cat(rep(a, x[0], x[1]), b), star(rep(a, x[0], x[1])), rep(empty, x[0], x[1])} {
			ofRefuses(t, s.tree(), api.ErrArg)
		}
	}
	for _, s := range []*shape{lazy(a, 0, -1), cat(star(a), lazy(b, 0, -1)), alt(lazy(empty, 0, -1), a), star(lazy(a, 0, -1)), lazy(star(a), 0, -1)} {
		ofRefuses(t, s.tree(), api.ErrArg)
	}
}

// Anchors are refused where they may stand, and where they cannot.
func TestOfAnchors(t *testing.T) {
	for _, anchor := range []*shape{hat, dollar} {
		for _, s := range []*shape{anchor, cat(anchor, a), cat(a, anchor), alt(anchor, a), alt(a, anchor), star(anchor), cat(cat(a, anchor), b), cat(star(a), cat(b, anchor)), cat(hat, cat(a, anchor)), alt(empty, cat(anchor, star(a)))} {
			ofRefuses(t, s.tree(), api.ErrArg)
		}
	}
	if tree.Check(cat(hat, a).tree()) != api.OK || tree.Check(cat(a, hat).tree()) != api.ErrAnchor || !normal.Is(cat(a, hat).tree()) {
		t.Error("the samples are others than they should be")
	}
	// What Branches takes the anchors off is taken.
	l, e := normal.Branches(cat(alt(hat, a), cat(b, dollar)).tree())
	if e != api.OK || len(l) != 2 {
		t.Fatal(e, len(l))
	}
	for _, x := range l {
		if n, e := glushkov.Of(x.Tree); e != api.OK || len(n.Classes) != tree.Weight(x.Tree) {
			t.Error(e, show(n))
		}
	}
}

func TestOfManyPositions(t *testing.T) {
	for _, kind := range []int{api.NdCat, api.NdAlt} {
		for _, left := range []bool{true, false} {
			for _, leaf := range []*shape{a, never, star(b)} {
				for _, many := range []int{511, 512} {
					n, e := glushkov.Of(row(many, kind, leaf, left).tree())
					if e != api.OK || len(n.Classes) != many || len(n.Follow) != many || glushkov.Check(n) != api.OK {
						t.Fatalf("%d: error %d, %s", many, e, show(n))
					}
				}
				for _, many := range []int{513, 514, 600} {
					ofRefuses(t, row(many, kind, leaf, left).tree(), api.ErrPositions)
				}
			}
			ofRefuses(t, row(1024, kind, a, left).tree(), api.ErrPositions)
		}
	}
	ofRefuses(t, star(row(513, api.NdCat, a, true)).tree(), api.ErrPositions)
	ofRefuses(t, cat(row(512, api.NdCat, a, true), cat(empty, b)).tree(), api.ErrPositions)
	// Other nodes than classes do not count.
	if n, e := glushkov.Of(cat(row(512, api.NdCat, a, true), row(500, api.NdAlt, empty, true)).tree()); e != api.OK || len(n.Classes) != 512 {
		t.Error(e, show(n))
	}
}

// ErrArg is told ahead of ErrPositions.
func TestOfWhichErrorComesFirst(t *testing.T) {
	much := row(513, api.NdCat, a, true)
	for _, s := range []*shape{cat(hat, much), cat(much, dollar), cat(much, hat), cat(much, rep(a, 1, 2)), lazy(much, 0, -1), rep(a, 513, 513)} {
		ofRefuses(t, s.tree(), api.ErrArg)
	}
	ofRefuses(t, much.tree(), api.ErrPositions)
}

// Classes come from left to right, with what no byte is in, too.
func TestOfClassesInOrder(t *testing.T) {
	var s *shape
	var want []api.Class
	for k := range 256 {
		leaf := set(byte(k), byte(k*7))
		want = append(want, leaf.node.Class)
		switch {
		case s == nil:
			s = leaf
		case k%3 == 0:
			s = alt(s, cat(empty, leaf))
		case k%3 == 1:
			s = cat(star(s), leaf)
		default:
			s = cat(s, alt(leaf, empty))
		}
	}
	n, e := glushkov.Of(s.tree())
	if e != api.OK || !slices.Equal(n.Classes, want) {
		t.Error(e, show(n))
	}
}
