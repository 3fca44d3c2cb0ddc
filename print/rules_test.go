package print_test

import (
	"math"
	"slices"
	"testing"

	"riddle/api"
	"riddle/print"
	"riddle/tree"
)

// given are trees of all kinds, with an error and without one.
func given() []api.Tree {
	l := refused()
	for _, s := range append(append(some(), astray()...), never, cat(a, never)) {
		l = append(l, s.tree())
	}
	return l
}

// node is any node, and may be none of any tree.
func (c *chance) node() api.Node {
	numbers := []int{math.MinInt, -2, -1, 0, 0, 1, 2, 3, 1000, 1001, math.MaxInt}
	number := func() int { return numbers[c.below(len(numbers))] }
	n := api.Node{Kind: c.below(9)}
	if c.below(3) == 0 {
		n.Class = c.class()
	}
	if c.is() {
		n.A, n.B = number(), number()
	}
	if c.below(3) == 0 {
		n.Least, n.Most, n.Lazy = number(), number(), c.is()
	}
	return n
}

// R1

func TestNoCallPanics(t *testing.T) {
	r := chance(76)
	for range 20000 {
		var x api.Tree
		for range r.below(6) {
			x.Nodes = append(x.Nodes, r.node())
		}
		heldAgainstCheck(t, x)
	}
	for range 5000 {
		x := r.shape(1+r.below(30), true, true).tree()
		x.Nodes[r.below(len(x.Nodes))] = r.node()
		heldAgainstCheck(t, x)
	}
	for _, kind := range []int{api.NdEmpty, api.NdRep, api.NdCat, 0} {
		x := api.Tree{Nodes: slices.Repeat([]api.Node{{Kind: kind}}, 1<<16)}
		heldAgainstCheck(t, x)
	}
}

// heldAgainstCheck calls all of the package, and fails unless what tree.Check refuses is refused so.
func heldAgainstCheck(t *testing.T, x api.Tree) {
	t.Helper()
	for _, n := range x.Nodes[:min(8, len(x.Nodes))] {
		print.Node(n)
	}
	e := tree.Check(x)
	if level := print.Level(x); level < 0 || level > 3 || e == api.ErrTree && level != 2 {
		t.Fatalf("%v: level %d", x, level)
	}
	if e != api.OK {
		refuses(t, x, e)
		return
	}
	p, e := print.Pattern(x)
	n, eLength := print.Length(x)
	switch e {
	case api.OK, api.ErrNever:
		if n != len(p) || eLength != e {
			t.Fatalf("%v: %q, error %d; Length %d, error %d", x, p, e, n, eLength)
		}
	case api.ErrLong:
		if n <= api.MaxPattern || eLength != api.OK {
			t.Fatalf("%v: Length %d, error %d", x, n, eLength)
		}
	default:
		t.Fatalf("%v: error %d", x, e)
	}
}

// R2

func TestNothingBesideAnError(t *testing.T) {
	for _, x := range given() {
		if p, e := print.Pattern(x); e != api.OK && p != nil {
			t.Fatalf("%v: %q, error %d", x, p, e)
		}
		if n, e := print.Length(x); e != api.OK && n != 0 {
			t.Fatalf("%v: %d, error %d", x, n, e)
		}
	}
}

// R3

func TestTreesAreTheirOwners(t *testing.T) {
	for _, x := range given() {
		// What is written behind the tree is seen, too.
		memory := append(slices.Clone(x.Nodes), slices.Repeat([]api.Node{{Kind: 77}}, 8)...)
		was := slices.Clone(memory)
		guarded := api.Tree{Nodes: memory[:len(x.Nodes)]}
		p, _ := print.Pattern(guarded)
		print.Length(guarded)
		print.Level(guarded)
		if !slices.Equal(memory, was) {
			t.Fatalf("%v was written to", x)
		}
		kept := string(p)
		clear(memory)
		if string(p) != kept {
			t.Fatalf("%q changes with its tree", kept)
		}
	}
}

func TestAnswersAreApart(t *testing.T) {
	for _, x := range given() {
		p, _ := print.Pattern(x)
		q, _ := print.Pattern(x)
		kept := string(q)
		whole := p[:cap(p)]
		for i := range whole {
			whole[i] = '!'
		}
		r, _ := print.Pattern(x)
		if string(q) != kept || string(r) != kept {
			t.Fatalf("%q: patterns share memory", kept)
		}
	}
}

// R4

func TestNilAndEmptyTrees(t *testing.T) {
	for _, x := range []api.Tree{{}, {Nodes: []api.Node{}}} {
		refuses(t, x, api.ErrTree)
		if got := print.Level(x); got != 2 {
			t.Error(got)
		}
	}
}

// R5

func TestZeroValues(t *testing.T) {
	refuses(t, api.Tree{}, api.ErrTree)
	refuses(t, api.Tree{Nodes: []api.Node{{}}}, api.ErrTree)
	if got := print.Node(api.Node{}); got != "" {
		t.Errorf("%q", got)
	}
}

// R6

func TestSameCallsAnswerTheSame(t *testing.T) {
	for _, x := range given() {
		p, e := print.Pattern(x)
		q, eQ := print.Pattern(x)
		n, eN := print.Length(x)
		m, eM := print.Length(x)
		if string(p) != string(q) || e != eQ || n != m || eN != eM || print.Level(x) != print.Level(x) {
			t.Fatalf("%v: another answer", x)
		}
		for _, n := range x.Nodes {
			if print.Node(n) != print.Node(n) {
				t.Fatalf("%v: another answer", n)
			}
		}
	}
}
