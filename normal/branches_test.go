package normal_test

import (
	"math/big"
	"testing"

	"riddle/api"
	"riddle/normal"
)

// P9.3

// parts fails unless Branches answers just these, node by node: for neither, Hat alone, Dollar alone, both, nil where there is none.
func parts(t *testing.T, s *shape, want fork) {
	t.Helper()
	got, e := normal.Branches(s.tree())
	if e != api.OK || !sameBranches(got, want.branches()) {
		t.Errorf("%s: error %d, %s; not %s", text(s.tree()), e, textOf(got), textOf(want.branches()))
	}
	if told := s.unrolled().fork(t); !sameBranches(told.branches(), want.branches()) {
		t.Errorf("%s: the tests do not agree", text(s.tree()))
	}
}

func TestBranchesWithoutAnchors(t *testing.T) {
	for _, s := range []*shape{empty, a, never, cat(a, b), alt(a, b), star(a), alt(cat(a, star(b)), alt(empty, c)), row(512, api.NdCat, a, true), row(512, api.NdAlt, a, false), pile(2047, a, 0, -1)} {
		parts(t, s, fork{neither: s})
	}
	parts(t, rep(a, 0, 0), fork{neither: empty})
	parts(t, lazy(a, 1, -1), fork{neither: cat(a, star(a))})
	parts(t, cat(rep(a, 1, 2), rep(b, 2, 2)), fork{neither: cat(cat(a, alt(a, empty)), cat(b, b))})
}

func TestBranchesOfAnchorsAlone(t *testing.T) {
	parts(t, hat, fork{hatAlone: empty})
	parts(t, dollar, fork{dollarAlone: empty})
	parts(t, cat(hat, dollar), fork{both: cat(empty, empty)})
	parts(t, alt(hat, dollar), fork{hatAlone: empty, dollarAlone: empty})
	parts(t, alt(dollar, hat), fork{hatAlone: empty, dollarAlone: empty})
	parts(t, alt(hat, hat), fork{hatAlone: alt(empty, empty)})
	parts(t, alt(dollar, dollar), fork{dollarAlone: alt(empty, empty)})
	parts(t, alt(alt(hat, dollar), cat(hat, dollar)), fork{hatAlone: empty, dollarAlone: empty, both: cat(empty, empty)})
}

func TestBranchesOfSequences(t *testing.T) {
	parts(t, cat(hat, a), fork{hatAlone: cat(empty, a)})
	parts(t, cat(a, dollar), fork{dollarAlone: cat(a, empty)})
	parts(t, cat(cat(hat, a), dollar), fork{both: cat(cat(empty, a), empty)})
	parts(t, cat(hat, cat(a, dollar)), fork{both: cat(empty, cat(a, empty))})
	parts(t, cat(cat(hat, a), b), fork{hatAlone: cat(cat(empty, a), b)})
	parts(t, cat(a, cat(b, dollar)), fork{dollarAlone: cat(a, cat(b, empty))})
	parts(t, cat(cat(hat, rep(a, 1, -1)), dollar), fork{both: cat(cat(empty, cat(a, star(a))), empty)})
	parts(t, cat(cat(hat, rep(a, 0, 0)), dollar), fork{both: cat(cat(empty, empty), empty)})
	parts(t, cat(hat, star(a)), fork{hatAlone: cat(empty, star(a))})
}

func TestBranchesOfAlternatives(t *testing.T) {
	// One side has an anchor.
	parts(t, alt(hat, a), fork{neither: a, hatAlone: empty})
	parts(t, alt(a, hat), fork{neither: a, hatAlone: empty})
	parts(t, alt(a, dollar), fork{neither: a, dollarAlone: empty})
	parts(t, alt(cat(a, dollar), b), fork{neither: b, dollarAlone: cat(a, empty)})
	parts(t, alt(cat(hat, dollar), b), fork{neither: b, both: cat(empty, empty)})
	// Both have the same.
	parts(t, alt(cat(hat, a), cat(hat, b)), fork{hatAlone: alt(cat(empty, a), cat(empty, b))})
	parts(t, alt(cat(hat, b), cat(hat, a)), fork{hatAlone: alt(cat(empty, b), cat(empty, a))})
	parts(t, alt(cat(a, dollar), cat(b, dollar)), fork{dollarAlone: alt(cat(a, empty), cat(b, empty))})
	parts(t, alt(cat(hat, cat(a, dollar)), cat(hat, dollar)), fork{both: alt(cat(empty, cat(a, empty)), cat(empty, empty))})
	// Each has another.
	parts(t, alt(cat(hat, a), cat(b, dollar)), fork{hatAlone: cat(empty, a), dollarAlone: cat(b, empty)})
	parts(t, alt(cat(b, dollar), cat(hat, a)), fork{hatAlone: cat(empty, a), dollarAlone: cat(b, empty)})
	parts(t, alt(cat(hat, dollar), cat(hat, a)), fork{hatAlone: cat(empty, a), both: cat(empty, empty)})
	// Some have the same, and others do not.
	parts(t, alt(alt(hat, a), alt(dollar, b)), fork{neither: alt(a, b), hatAlone: empty, dollarAlone: empty})
	parts(t, alt(alt(a, hat), alt(b, hat)), fork{neither: alt(a, b), hatAlone: alt(empty, empty)})
	parts(t, alt(alt(cat(hat, a), b), alt(c, cat(hat, dollar))), fork{neither: alt(b, c), hatAlone: cat(empty, a), both: cat(empty, empty)})
	parts(t, alt(a, alt(cat(hat, b), alt(c, cat(hat, ab)))), fork{neither: alt(a, c), hatAlone: alt(cat(empty, b), cat(empty, ab))})
}

func TestBranchesOfSequencesOfSeveral(t *testing.T) {
	parts(t, cat(alt(hat, a), b), fork{neither: cat(a, b), hatAlone: cat(empty, b)})
	parts(t, cat(a, alt(b, dollar)), fork{neither: cat(a, b), dollarAlone: cat(a, empty)})
	parts(t, cat(alt(hat, a), alt(b, dollar)), fork{neither: cat(a, b), hatAlone: cat(empty, b), dollarAlone: cat(a, empty), both: cat(empty, empty)})
	parts(t, cat(alt(a, hat), alt(dollar, b)), fork{neither: cat(a, b), hatAlone: cat(empty, b), dollarAlone: cat(a, empty), both: cat(empty, empty)})
	parts(t, cat(alt(hat, a), dollar), fork{dollarAlone: cat(a, empty), both: cat(empty, empty)})
	parts(t, cat(hat, alt(b, dollar)), fork{hatAlone: cat(empty, b), both: cat(empty, empty)})
	parts(t, cat(cat(alt(hat, a), c), alt(b, dollar)), fork{neither: cat(cat(a, c), b), hatAlone: cat(cat(empty, c), b), dollarAlone: cat(cat(a, c), empty), both: cat(cat(empty, c), empty)})
	parts(t, cat(alt(cat(hat, a), b), cat(c, alt(a, cat(b, dollar)))), fork{neither: cat(b, cat(c, a)), hatAlone: cat(cat(empty, a), cat(c, a)), dollarAlone: cat(b, cat(c, cat(b, empty))), both: cat(cat(empty, a), cat(c, cat(b, empty)))})
	parts(t, cat(rep(a, 0, 1), alt(rep(b, 2, 2), dollar)), fork{neither: cat(alt(a, empty), cat(b, b)), dollarAlone: cat(alt(a, empty), empty)})
	parts(t, alt(cat(alt(hat, a), alt(b, dollar)), cat(hat, c)), fork{neither: cat(a, b), hatAlone: alt(cat(empty, b), cat(empty, c)), dollarAlone: cat(a, empty), both: cat(empty, empty)})
}

// All sets of the four that there can be, each in its order.
func TestBranchesThatThereAre(t *testing.T) {
	four := fork{a, cat(hat, b), cat(c, dollar), cat(hat, cat(ab, dollar))}
	bare := fork{a, cat(empty, b), cat(c, empty), cat(empty, cat(ab, empty))}
	for of := 1; of < 16; of++ {
		var some []*shape
		var want fork
		for k := range four {
			if of>>k&1 == 1 {
				some, want[k] = append(some, four[k]), bare[k]
			}
		}
		parts(t, alt(some[0], some[1:]...), want)
		// From the last one to the first they come in the same order.
		for i, k := 0, len(some)-1; i < k; i, k = i+1, k-1 {
			some[i], some[k] = some[k], some[i]
		}
		parts(t, alt(some[0], some[1:]...), want)
	}
}

// What the nodes are, number by number.
func TestBranchesNodes(t *testing.T) {
	class := func(b byte) api.Node { return api.Node{Kind: 2, Class: raw(b)} }
	none := api.Node{Kind: 1}
	got, e := normal.Branches(cat(cat(alt(hat, a), star(b)), alt(c, dollar)).tree())
	want := []api.Branch{
		{Tree: api.Tree{Nodes: []api.Node{class('a'), class('b'), {Kind: 5, A: 1, Most: -1}, {Kind: 3, A: 0, B: 2}, class('c'), {Kind: 3, A: 3, B: 4}}}},
		{Hat: true, Tree: api.Tree{Nodes: []api.Node{none, class('b'), {Kind: 5, A: 1, Most: -1}, {Kind: 3, A: 0, B: 2}, class('c'), {Kind: 3, A: 3, B: 4}}}},
		{Dollar: true, Tree: api.Tree{Nodes: []api.Node{class('a'), class('b'), {Kind: 5, A: 1, Most: -1}, {Kind: 3, A: 0, B: 2}, none, {Kind: 3, A: 3, B: 4}}}},
		{Hat: true, Dollar: true, Tree: api.Tree{Nodes: []api.Node{none, class('b'), {Kind: 5, A: 1, Most: -1}, {Kind: 3, A: 0, B: 2}, none, {Kind: 3, A: 3, B: 4}}}},
	}
	if e != api.OK || !sameBranches(got, want) {
		t.Errorf("error %d, %s", e, textOf(got))
	}
}

// partsAsTold fails unless Branches answers what the words of the chapter say of s; it answers the error, and how many branches there are.
func partsAsTold(t *testing.T, s *shape) (api.Errno, int) {
	t.Helper()
	x, e := s.tree(), s.errorOf()
	if e != api.OK {
		unrollRefuses(t, x, e)
		return e, 0
	}
	f := s.unrolled().fork(t)
	got, e := normal.Branches(x)
	if f.weight().Cmp(big.NewInt(512)) > 0 {
		if e != api.ErrPositions || got != nil {
			t.Fatalf("%s: %s, error %d", text(x), textOf(got), e)
		}
		return api.ErrPositions, 0
	}
	if e != api.OK || !sameBranches(got, f.branches()) {
		t.Fatalf("%s: error %d, %s; not %s", text(x), e, textOf(got), textOf(f.branches()))
	}
	return e, len(got)
}

func TestBranchesOfShapes(t *testing.T) {
	many := map[int]int{}
	for nodes := 1; nodes <= 5; nodes++ {
		each(nodes, []*shape{empty, a, hat, dollar}, func(s *shape) {
			_, n := partsAsTold(t, s)
			many[n]++
		})
	}
	for _, s := range anchored() {
		if e, n := partsAsTold(t, s); e == api.OK {
			many[n]++
		}
	}
	if many[1] < 2000 || many[2] < 200 || many[3] < 50 || many[4] < 20 {
		t.Error(many)
	}
}

func TestBranchesOfManyTrees(t *testing.T) {
	r := chance(98)
	many, errors := map[int]int{}, map[api.Errno]int{}
	for range 3000 {
		e, n := partsAsTold(t, r.shape(1+r.below(60), true, true))
		many[n]++
		errors[e]++
	}
	if many[1] < 200 || many[2] < 200 || many[3] < 100 || many[4] < 50 || errors[api.ErrPositions] < 10 {
		t.Error(many, errors)
	}
}

// Unroll is still within MaxPositions, and so is the sum of what the branches have, or it is one above.
func TestBranchesAtMaxPositions(t *testing.T) {
	hatOr, dollarOr := alt(hat, empty), alt(empty, dollar)
	for _, x := range []struct {
		s          *shape
		own, other int
	}{
		{cat(hatOr, rep(a, 256, 256)), 256, 512}, {cat(rep(a, 255, -1), dollarOr), 256, 512}, {cat(cat(hatOr, rep(a, 0, 128)), dollarOr), 128, 512}, {cat(hatOr, cat(rep(a, 128, 128), dollarOr)), 128, 512}, {cat(alt(hat, rep(b, 10, 10)), rep(a, 251, 251)), 261, 512}, {cat(alt(hat, b, c), alt(rep(a, 254, 254), dollar)), 256, 512}, {alt(cat(hat, rep(a, 256, 256)), cat(rep(b, 256, 256), dollar)), 512, 512}, {cat(hat, cat(rep(a, 512, 512), dollar)), 512, 512},
	} {
		got, e := normal.Branches(x.s.tree())
		if n := x.s.weight().Int64(); n != int64(x.own) {
			t.Fatal(n)
		}
		if e != api.OK || normal.Positions(got...) != x.other {
			t.Errorf("%s: error %d, %d positions", text(x.s.tree()), e, normal.Positions(got...))
		}
		partsAsTold(t, x.s)
	}
	for _, x := range []struct {
		s   *shape
		own int
	}{
		{cat(alt(hat, a), rep(a, 256, 256)), 257}, {cat(rep(a, 256, 256), alt(b, dollar)), 257}, {cat(hatOr, rep(a, 257, 257)), 257}, {cat(cat(hatOr, rep(a, 128, -1)), dollarOr), 129}, {cat(cat(hatOr, rep(a, 0, 129)), dollarOr), 129}, {alt(cat(hatOr, rep(a, 256, 256)), b), 257}, {alt(b, cat(rep(a, 256, 256), dollarOr)), 257}, {cat(hatOr, rep(a, 512, 512)), 512}, {cat(hatOr, cat(rep(a, 512, 512), dollarOr)), 512},
	} {
		if n := x.s.weight().Int64(); n != int64(x.own) {
			t.Fatal(n)
		}
		if _, e := normal.Unroll(x.s.tree()); e != api.OK {
			t.Errorf("%s: Unroll has the error %d", text(x.s.tree()), e)
		}
		if got, e := normal.Branches(x.s.tree()); e != api.ErrPositions || got != nil {
			t.Errorf("%s: error %d, %s", text(x.s.tree()), e, textOf(got))
		}
	}
}

// Each branch has no more nodes than the tree unrolled, so that there is no other ErrLong than Unroll's.
func TestBranchesOfGreatTrees(t *testing.T) {
	for _, s := range great() {
		partsAsTold(t, s)
	}
	long := cat(rep(empty, 999, -1), rep(empty, 19, 19)) // 2,038 nodes
	for _, s := range []*shape{cat(alt(hat, empty), cat(long, alt(empty, dollar))), cat(cat(alt(hat, empty), long), alt(empty, dollar)), cat(hat, cat(long, dollar)), cat(alt(hat, a), row(1021, api.NdCat, empty, true)), cat(row(1021, api.NdCat, empty, false), alt(dollar, a))} {
		u, e := normal.Unroll(s.tree())
		if e != api.OK || len(u.Nodes) < 2030 {
			t.Fatal(len(u.Nodes), e)
		}
		partsAsTold(t, s)
	}
	// As deep as can be, on either side.
	for _, s := range []*shape{hat, dollar, alt(hat, empty), alt(hat, a), alt(a, dollar), alt(hat, dollar)} {
		left, right, up := s, s, s
		for range 500 {
			if !s.has(api.NdDollar) {
				left = cat(left, empty)
			}
			if !s.has(api.NdHat) {
				right = cat(empty, right)
			}
			up = alt(up, s)
		}
		for _, x := range []*shape{left, right, up} {
			if e, n := partsAsTold(t, x); n == 0 && e != api.ErrPositions {
				t.Errorf("error %d", e)
			}
		}
	}
}
