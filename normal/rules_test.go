package normal_test

import (
	"math"
	"slices"
	"testing"

	"riddle/api"
	"riddle/normal"
	"riddle/tree"
)

// given are trees of all kinds, refused and not.
func given() []api.Tree {
	l := refused()
	for _, s := range slices.Concat(astray(), anchored(), great(), []*shape{empty, a, star(a), rep(a, 513, 513), rep(alt(empty, empty), 1000, -1), rep(cat(a, b), 2, 3), cat(alt(hat, a), rep(a, 256, 256))}) {
		l = append(l, s.tree())
	}
	r := chance(101)
	for range 300 {
		l = append(l, r.shape(1+r.below(30), true, true).tree())
	}
	return l
}

// R1

// calls fails unless the calls answer what they may of any tree.
func calls(t *testing.T, x api.Tree) {
	t.Helper()
	is := normal.Is(x)
	check := tree.Check(x)
	if is && check == api.ErrTree {
		t.Fatalf("%s is plain", text(x))
	}
	u, e := normal.Unroll(x)
	if check != api.OK && e != check || e != api.OK && u.Nodes != nil || e == api.OK && !normal.Is(u) {
		t.Fatalf("%s: error %d, %s", text(x), e, text(u))
	}
	l, other := normal.Branches(x)
	if e != api.OK && other != e || other != api.OK && l != nil || other == api.OK && len(l) == 0 {
		t.Fatalf("%s: error %d, %s", text(x), other, textOf(l))
	}
	if n := normal.Positions(append(l, api.Branch{Tree: x})...); n < 0 || n > api.MaxWidth {
		t.Fatalf("%s: %d positions", text(x), n)
	}
}

func TestNoCallPanics(t *testing.T) {
	r := chance(102)
	for _, x := range given() {
		calls(t, x)
	}
	for range 20000 {
		var x api.Tree
		for range r.below(6) {
			x.Nodes = append(x.Nodes, r.node())
		}
		calls(t, x)
	}
	for range 5000 {
		x := r.shape(1+r.below(30), true, true).tree()
		x.Nodes[r.below(len(x.Nodes))] = r.node()
		calls(t, x)
	}
	for _, kind := range []int{api.NdEmpty, api.NdClass, api.NdCat, api.NdAlt, api.NdRep, api.NdHat, 0, math.MinInt} {
		for _, many := range []int{1, 2048, 2049, 1 << 16} {
			calls(t, api.Tree{Nodes: slices.Repeat([]api.Node{{Kind: kind}}, many)})
		}
	}
}

// Any bounds, in one another: each call ends, however much these come to.
func TestGreatRepeats(t *testing.T) {
	bounds := []int{0, 1, 2, 512, 513, 1000}
	for _, leaf := range []*shape{a, empty, alt(a, empty)} {
		for _, least := range bounds {
			for _, most := range append([]int{-1}, bounds...) {
				for _, many := range []int{1, 2, 3, 10, 2040} {
					calls(t, pile(many, leaf, least, most).tree())
					calls(t, rep(pile(many, leaf, least, most), 0, 0).tree())
					calls(t, cat(hat, cat(star(pile(many, leaf, least, most)), dollar)).tree())
				}
			}
		}
	}
}

// R2

func TestNothingBesideAnError(t *testing.T) {
	many := map[api.Errno]int{}
	for _, x := range given() {
		u, e := normal.Unroll(x)
		if e != api.OK && u.Nodes != nil {
			t.Fatalf("%s: %s beside the error %d", text(x), text(u), e)
		}
		l, e := normal.Branches(x)
		if e != api.OK && l != nil {
			t.Fatalf("%s: %s beside the error %d", text(x), textOf(l), e)
		}
		many[e]++
	}
	for _, e := range []api.Errno{api.OK, api.ErrTree, api.ErrAnchor, api.ErrPositions, api.ErrLong} {
		if many[e] < 3 {
			t.Errorf("the error %d %d times", e, many[e])
		}
	}
}

// R3

// answers are all trees that the calls of the package answer for x.
func answers(x api.Tree) []api.Tree {
	u, _ := normal.Unroll(x)
	l := []api.Tree{u}
	for range 2 {
		branches, _ := normal.Branches(x)
		for _, b := range branches {
			l = append(l, b.Tree)
		}
	}
	u, _ = normal.Unroll(x)
	return append(l, u)
}

func copies(l []api.Tree) []api.Tree {
	var c []api.Tree
	for _, x := range l {
		c = append(c, api.Tree{Nodes: slices.Clone(x.Nodes)})
	}
	return c
}

// guarded is x in a greater memory, whose other nodes are of Kind 77: what is written behind the tree is seen, too.
func guarded(x api.Tree) (api.Tree, []api.Node) {
	memory := append(slices.Clone(x.Nodes), slices.Repeat([]api.Node{{Kind: 77}}, 8)...)
	return api.Tree{Nodes: memory[:len(x.Nodes)]}, memory
}

func TestArgumentsAreTheirOwners(t *testing.T) {
	for _, given := range given() {
		x, memory := guarded(given)
		was := slices.Clone(memory)
		l := answers(x)
		normal.Is(x)
		branches := []api.Branch{{Hat: true, Tree: x}, {Dollar: true, Tree: x}, {}}
		normal.Positions(branches[:2]...)
		if !slices.Equal(memory, was) || !sameBranches(branches, []api.Branch{{Hat: true, Tree: given}, {Dollar: true, Tree: given}, {}}) {
			t.Fatalf("%s was written to", text(given))
		}
		kept := copies(l)
		for i := range memory {
			memory[i] = api.Node{Kind: 99}
		}
		if !slices.EqualFunc(l, kept, sameTree) {
			t.Fatalf("%s: an answer changes with it", text(given))
		}
	}
}

// What is written into an answer, or put behind it, is neither in the argument nor in another answer, nor one branch's in another's.
func TestAnswersAreApart(t *testing.T) {
	for _, given := range given() {
		x, memory := guarded(given)
		was := slices.Clone(memory)
		l := answers(x)
		kept := copies(l)
		for i := range l {
			whole := l[i].Nodes[:cap(l[i].Nodes)]
			for k := range whole {
				whole[k] = api.Node{Kind: 99}
			}
			_ = append(l[i].Nodes, api.Node{Kind: 99})
			if !slices.EqualFunc(l[i+1:], kept[i+1:], sameTree) {
				t.Fatalf("%s: the answer %d shares memory with another one", text(given), i)
			}
		}
		if !slices.Equal(memory, was) {
			t.Fatalf("%s: an answer shares memory with it", text(given))
		}
		if !slices.EqualFunc(answers(x), kept, sameTree) {
			t.Fatalf("%s: other answers once those ahead are written to", text(given))
		}
	}
	one, _ := normal.Branches(cat(alt(hat, a), b).tree())
	two, _ := normal.Branches(cat(alt(hat, a), b).tree())
	clear(one[:cap(one)])
	if len(two) != 2 || len(two[0].Tree.Nodes) != 3 || !two[1].Hat {
		t.Error("two lists of branches share memory")
	}
}

// R4

func TestNilAndEmptyLists(t *testing.T) {
	for _, x := range []api.Tree{{}, {Nodes: []api.Node{}}} {
		if normal.Is(x) {
			t.Error("it is plain")
		}
		unrollRefuses(t, x, api.ErrTree)
		if n := normal.Positions(api.Branch{Tree: x}); n != 0 {
			t.Errorf("%d positions", n)
		}
	}
	if normal.Positions() != 0 || normal.Positions(nil...) != 0 || normal.Positions([]api.Branch{}...) != 0 {
		t.Error("positions of no branch")
	}
}

// R5: a tree that no call made is one that tree.Check refuses.
func TestZeroValues(t *testing.T) {
	for _, x := range []api.Tree{{}, {Nodes: []api.Node{{}}}, {Nodes: make([]api.Node, 5)}} {
		if normal.Is(x) {
			t.Error("it is plain")
		}
		unrollRefuses(t, x, api.ErrTree)
	}
	if n := normal.Positions(api.Branch{}, api.Branch{}); n != 0 {
		t.Errorf("%d positions", n)
	}
}

// R6

func TestSameCallsAnswerTheSame(t *testing.T) {
	for _, x := range given() {
		u, e := normal.Unroll(x)
		l, other := normal.Branches(x)
		for range 3 {
			if v, f := normal.Unroll(x); f != e || !sameTree(u, v) {
				t.Fatalf("%s: another answer of Unroll", text(x))
			}
			if m, f := normal.Branches(x); f != other || !sameBranches(l, m) {
				t.Fatalf("%s: another answer of Branches", text(x))
			}
			if normal.Is(x) != normal.Is(x) || normal.Positions(l...) != normal.Positions(l...) {
				t.Fatalf("%s: another answer", text(x))
			}
		}
	}
}
