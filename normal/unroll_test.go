package normal_test

import (
	"testing"

	"riddle/api"
	"riddle/normal"
	"riddle/tree"
)

// P9.2

// unrolls fails unless Unroll answers the tree of want, node by node.
func unrolls(t *testing.T, s, want *shape) {
	t.Helper()
	got, e := normal.Unroll(s.tree())
	if e != api.OK || !sameTree(got, want.tree()) {
		t.Errorf("%s: error %d, %s; not %s", text(s.tree()), e, text(got), text(want.tree()))
	}
}

// unrollRefuses fails unless Unroll and Branches answer that error, and nothing beside it.
func unrollRefuses(t *testing.T, x api.Tree, want api.Errno) {
	t.Helper()
	if got, e := normal.Unroll(x); e != want || got.Nodes != nil {
		t.Errorf("%s: Unroll answers %s, error %d, not %d", text(x), text(got), e, want)
	}
	if got, e := normal.Branches(x); e != want || got != nil {
		t.Errorf("%s: Branches answers %s, error %d, not %d", text(x), textOf(got), e, want)
	}
}

func TestUnrollWhatHasNoRepeats(t *testing.T) {
	for _, s := range []*shape{empty, a, never, hat, dollar, cat(a, b), alt(a, b), cat(hat, dollar), alt(hat, dollar), cat(a, cat(b, c)), cat(a, b, c), alt(cat(a, b), alt(empty, c)), cat(alt(hat, a), alt(b, dollar)), row(512, api.NdCat, a, true), row(512, api.NdAlt, a, false), row(1024, api.NdAlt, empty, true)} {
		unrolls(t, s, s)
	}
	// Stars are left as they are.
	for _, s := range []*shape{star(a), star(empty), star(star(a)), cat(star(a), star(b)), star(alt(a, cat(b, empty))), pile(2047, a, 0, -1), star(row(1024, api.NdAlt, empty, true))} {
		unrolls(t, s, s)
	}
}

func TestUnrollRepeats(t *testing.T) {
	aOr := alt(a, empty)
	for _, x := range []struct{ s, want *shape }{
		// None.
		{rep(a, 0, 0), empty}, {lazy(a, 0, 0), empty}, {rep(empty, 0, 0), empty}, {rep(cat(a, b), 0, 0), empty}, {rep(rep(a, 3, 4), 0, 0), empty}, {cat(rep(a, 0, 0), b), cat(empty, b)}, {rep(rep(a, 0, 0), 2, 2), cat(empty, empty)}, {rep(never, 0, 0), empty},
		// Least and Most alike.
		{rep(a, 1, 1), a}, {rep(a, 2, 2), cat(a, a)}, {rep(a, 3, 3), cat(cat(a, a), a)}, {rep(a, 4, 4), cat(cat(cat(a, a), a), a)}, {rep(cat(a, b), 3, 3), cat(cat(cat(a, b), cat(a, b)), cat(a, b))}, {rep(alt(a, b), 2, 2), cat(alt(a, b), alt(a, b))},
		// No end.
		{star(a), star(a)}, {rep(a, 1, -1), cat(a, star(a))}, {rep(a, 2, -1), cat(cat(a, a), star(a))}, {rep(a, 4, -1), cat(cat(cat(cat(a, a), a), a), star(a))}, {rep(cat(a, b), 1, -1), cat(cat(a, b), star(cat(a, b)))},
		// Options of 1, of 2, of several.
		{rep(a, 0, 1), aOr}, {rep(a, 0, 2), alt(cat(a, aOr), empty)}, {rep(a, 0, 3), alt(cat(a, alt(cat(a, aOr), empty)), empty)}, {rep(a, 0, 4), alt(cat(a, alt(cat(a, alt(cat(a, aOr), empty)), empty)), empty)},
		{rep(a, 1, 2), cat(a, aOr)}, {rep(a, 1, 3), cat(a, alt(cat(a, aOr), empty))}, {rep(a, 2, 3), cat(cat(a, a), aOr)}, {rep(a, 2, 5), cat(cat(a, a), alt(cat(a, alt(cat(a, aOr), empty)), empty))}, {rep(a, 3, 5), cat(cat(cat(a, a), a), alt(cat(a, aOr), empty))},
		{rep(cat(a, b), 0, 2), alt(cat(cat(a, b), alt(cat(a, b), empty)), empty)}, {rep(alt(a, b), 1, 2), cat(alt(a, b), alt(alt(a, b), empty))},
		// Lazy is nothing.
		{lazy(a, 0, -1), star(a)}, {lazy(a, 1, -1), cat(a, star(a))}, {lazy(a, 2, 2), cat(a, a)}, {lazy(a, 0, 1), aOr}, {lazy(a, 1, 3), cat(a, alt(cat(a, aOr), empty))}, {lazy(lazy(a, 0, -1), 0, -1), star(star(a))},
		// Of no bytes.
		{rep(empty, 1, 1), empty}, {rep(empty, 2, 3), cat(cat(empty, empty), alt(empty, empty))}, {rep(empty, 1, -1), cat(empty, star(empty))}, {rep(empty, 0, 2), alt(cat(empty, alt(empty, empty)), empty)},
		// In one another.
		{rep(rep(a, 2, 2), 2, 2), cat(cat(a, a), cat(a, a))}, {rep(rep(a, 0, 1), 0, 1), alt(aOr, empty)}, {rep(rep(a, 1, -1), 1, -1), cat(cat(a, star(a)), star(cat(a, star(a))))}, {star(rep(a, 1, 2)), star(cat(a, aOr))}, {rep(star(a), 2, 2), cat(star(a), star(a))}, {rep(rep(a, 0, 2), 1, 2), cat(alt(cat(a, aOr), empty), alt(alt(cat(a, aOr), empty), empty))}, {rep(rep(rep(a, 1, 1), 1, 1), 1, 1), a}, {rep(lazy(a, 0, -1), 0, 1), alt(star(a), empty)},
		// Among others.
		{cat(rep(a, 2, 2), rep(b, 0, 1)), cat(cat(a, a), alt(b, empty))}, {cat(a, cat(rep(b, 1, -1), c)), cat(a, cat(cat(b, star(b)), c))}, {alt(rep(a, 1, 2), rep(b, 0, 0)), alt(cat(a, aOr), empty)}, {star(cat(rep(a, 2, 2), b)), star(cat(cat(a, a), b))},
		{cat(hat, cat(rep(a, 1, 2), dollar)), cat(hat, cat(cat(a, aOr), dollar))}, {cat(alt(hat, rep(a, 0, 1)), alt(rep(b, 2, 2), dollar)), cat(alt(hat, aOr), alt(cat(b, b), dollar))},
	} {
		unrolls(t, x.s, x.want)
		if !sameTree(x.s.unrolled().tree(), x.want.tree()) {
			t.Errorf("%s: the tests do not agree", text(x.s.tree()))
		}
	}
}

// What the nodes are, number by number.
func TestUnrollNodes(t *testing.T) {
	class := func(b byte) api.Node { return api.Node{Kind: 2, Class: raw(b)} }
	none := api.Node{Kind: 1}
	for _, x := range []struct {
		s    *shape
		want []api.Node
	}{
		{rep(a, 1, 3), []api.Node{class('a'), class('a'), class('a'), none, {Kind: 4, A: 2, B: 3}, {Kind: 3, A: 1, B: 4}, none, {Kind: 4, A: 5, B: 6}, {Kind: 3, A: 0, B: 7}}},
		{rep(cat(a, b), 1, -1), []api.Node{class('a'), class('b'), {Kind: 3, A: 0, B: 1}, class('a'), class('b'), {Kind: 3, A: 3, B: 4}, {Kind: 5, A: 5, Most: -1}, {Kind: 3, A: 2, B: 6}}},
		{cat(b, lazy(a, 3, 3)), []api.Node{class('b'), class('a'), class('a'), {Kind: 3, A: 1, B: 2}, class('a'), {Kind: 3, A: 3, B: 4}, {Kind: 3, A: 0, B: 5}}},
	} {
		if got, e := normal.Unroll(x.s.tree()); e != api.OK || !sameTree(got, api.Tree{Nodes: x.want}) {
			t.Errorf("%s: error %d, %s", text(x.s.tree()), e, text(got))
		}
	}
}

// unrollsAsTold fails unless Unroll answers what the words of the chapter say of s; it answers the error.
func unrollsAsTold(t *testing.T, s *shape) api.Errno {
	t.Helper()
	x, want := s.tree(), s.errorOf()
	if want != api.OK {
		unrollRefuses(t, x, want)
		return want
	}
	got, e := normal.Unroll(x)
	if e != api.OK || !sameTree(got, s.unrolled().tree()) {
		t.Fatalf("%s: error %d, %s", text(x), e, text(got))
	}
	if n := s.size().Int64(); n != int64(len(got.Nodes)) {
		t.Fatalf("%s: %d nodes, not %d", text(x), len(got.Nodes), n)
	}
	return api.OK
}

func TestUnrollEachBound(t *testing.T) {
	parts := []*shape{empty, a, cat(a, b), alt(a, empty), star(b), rep(a, 0, 1), rep(empty, 2, 3), alt(empty, empty), rep(a, 0, 0)}
	for _, s := range parts {
		for _, least := range []int{0, 1, 2, 3, 4, 7, 50, 255, 256, 341, 511, 512, 513, 683, 999, 1000} {
			for _, more := range []int{-1, 0, 1, 2, 3, 8, 100, 255, 256, 257, 340, 410, 511, 512, 513, 700, 1000} {
				most := least + more
				if more == -1 {
					most = -1
				}
				if most <= 1000 {
					unrollsAsTold(t, rep(s, least, most))
				}
			}
		}
	}
}

func TestUnrollShapes(t *testing.T) {
	many := map[api.Errno]int{}
	for nodes := 1; nodes <= 5; nodes++ {
		each(nodes, []*shape{empty, a, hat, dollar}, func(s *shape) { many[unrollsAsTold(t, s)]++ })
	}
	if many[api.OK] < 2000 || many[api.ErrAnchor] < 500 {
		t.Error(many)
	}
}

func TestUnrollManyTrees(t *testing.T) {
	r := chance(97)
	many := map[api.Errno]int{}
	for range 3000 {
		s := r.shape(1+r.below(150), true, true)
		many[unrollsAsTold(t, s)]++
		many[unrollsAsTold(t, r.thin(s))]++
	}
	if many[api.OK] < 1000 || many[api.ErrPositions] < 300 || many[api.ErrLong] < 50 {
		t.Error(many)
	}
}

// Errors

func TestUnrollRefusesTreesFirst(t *testing.T) {
	for _, x := range refused() {
		unrollRefuses(t, x, api.ErrTree)
	}
	for _, s := range astray() {
		unrollRefuses(t, s.tree(), api.ErrAnchor)
	}
	// ErrTree is ahead of ErrAnchor, of ErrPositions and of ErrLong.
	unrollRefuses(t, rep(cat(a, hat), 2, 1).tree(), api.ErrTree)
	unrollRefuses(t, rep(rep(a, 1000, 1000), 1000, 1001).tree(), api.ErrTree)
	unrollRefuses(t, rep(rep(empty, 1000, 1000), 1001, -1).tree(), api.ErrTree)
	unrollRefuses(t, pile(2048, cat(a, hat), 1000, 1000).tree(), api.ErrTree)
	// ErrAnchor is ahead of ErrPositions and of ErrLong.
	unrollRefuses(t, cat(rep(a, 513, 513), hat).tree(), api.ErrAnchor)
	unrollRefuses(t, rep(cat(hat, a), 1000, -1).tree(), api.ErrAnchor)
	unrollRefuses(t, rep(rep(hat, 1000, 1000), 1000, 1000).tree(), api.ErrAnchor)
	unrollRefuses(t, cat(dollar, rep(alt(empty, empty), 1000, 1000)).tree(), api.ErrAnchor)
	// ErrPositions is ahead of ErrLong.
	unrollRefuses(t, rep(cat(a, rep(empty, 1000, 1000)), 513, 513).tree(), api.ErrPositions)
	unrollRefuses(t, rep(alt(a, empty), 512, -1).tree(), api.ErrPositions)
	unrollRefuses(t, pile(2047, a, 1, 2).tree(), api.ErrPositions)
}

func TestUnrollAtMaxPositions(t *testing.T) {
	for _, s := range []*shape{
		rep(a, 512, 512), rep(a, 0, 512), rep(a, 511, -1), rep(a, 200, 512), rep(cat(a, b), 256, 256), rep(rep(a, 2, 2), 256, 256), cat(rep(a, 511, 511), b), alt(rep(a, 510, -1), b), row(512, api.NdCat, a, true), row(512, api.NdAlt, never, false), cat(hat, cat(rep(a, 512, 512), dollar)),
		// What is there no time has no weight.
		cat(rep(a, 512, 512), rep(a, 0, 0)), rep(rep(a, 1000, 1000), 0, 0),
	} {
		if n := tree.Weight(s.tree()); n != 512 && n != 0 {
			t.Fatal(n)
		}
		if e := unrollsAsTold(t, s); e != api.OK {
			t.Errorf("%s: error %d", text(s.tree()), e)
		}
	}
	for _, s := range []*shape{
		rep(a, 513, 513), rep(a, 0, 513), rep(a, 512, -1), rep(a, 200, 513), rep(rep(a, 3, 3), 171, 171), cat(rep(a, 512, 512), b), alt(rep(a, 511, -1), b), row(513, api.NdCat, a, true), row(513, api.NdAlt, never, false), cat(hat, cat(rep(a, 513, 513), dollar)), cat(row(512, api.NdCat, a, false), star(a)),
	} {
		if n := tree.Weight(s.tree()); n != 513 {
			t.Fatal(n)
		}
		unrollRefuses(t, s.tree(), api.ErrPositions)
	}
	for _, s := range []*shape{rep(a, 1000, 1000), rep(rep(a, 1000, 1000), 1000, 1000), pile(3, a, 1000, 1000), pile(2047, a, 1000, -1), twoTo(30), twoTo(40)} {
		unrollRefuses(t, s.tree(), api.ErrPositions)
	}
}

func TestUnrollAtMaxNodes(t *testing.T) {
	long := rep(empty, 1000, -1) // 2,002 nodes
	for _, s := range []*shape{
		cat(long, rep(empty, 23, 23)), cat(rep(empty, 23, 23), long), alt(long, cat(a, b)).grow(2048), rep(alt(a, empty), 511, -1), pile(2047, a, 0, -1), star(row(1024, api.NdCat, empty, true)), rep(row(1000, api.NdAlt, empty, true), 1, 1).grow(2048),
	} {
		got, e := normal.Unroll(s.tree())
		if e != api.OK || len(got.Nodes) != 2048 {
			t.Errorf("%d nodes: %d, error %d", len(s.tree().Nodes), len(got.Nodes), e)
		}
		unrollsAsTold(t, s)
	}
	for _, s := range []*shape{
		cat(long, rep(empty, 22, -1)), cat(rep(empty, 22, -1), long), rep(cat(long, rep(empty, 22, -1)), 1, 1), rep(row(1024, api.NdCat, empty, true), 0, 1), rep(alt(empty, empty), 512, -1), rep(empty, 0, 513), rep(rep(empty, 1000, 1000), 2, 2), rep(rep(empty, 1000, 1000), 1000, 1000), pile(2047, empty, 1000, -1), pile(2047, empty, 0, 1), pile(2047, empty, 1, 2), pile(9, rep(a, 0, 1), 1, 2), cat(hat, cat(rep(empty, 1000, -1), rep(empty, 21, 21))).grow(2049),
	} {
		if s.size().Int64() < 2049 && s.size().IsInt64() {
			t.Fatal(s.size())
		}
		unrollRefuses(t, s.tree(), api.ErrLong)
	}
	// One below the limit, at it, and one above it.
	for _, n := range []int{2046, 2047, 2048, 2049, 2050} {
		for _, s := range []*shape{rep(a, 300, 400), rep(cat(a, b), 50, 120), rep(rep(empty, 3, 5), 9, 30), cat(hat, rep(a, 0, 510))} {
			grown := s.grow(n)
			want := api.OK
			if n > 2048 {
				want = api.ErrLong
			}
			if e := unrollsAsTold(t, grown); e != want {
				t.Errorf("%d nodes: error %d", n, e)
			}
		}
	}
}

// grow is s with so much behind it that it has just so many nodes when it is unrolled (with an anchor not just one more: that is a star).
func (s *shape) grow(nodes int) *shape {
	left := nodes - int(s.size().Int64())
	switch {
	case left == 0:
		return s
	case left == 1:
		return star(s)
	case left%2 == 1:
		// A star of nothing and an NdCat are 3, and each further NdEmpty is 2.
		return cat(s, rep(empty, (left-3)/2, -1))
	}
	return cat(s, rep(empty, left/2, left/2))
}

// However great a part is, of no times of it nothing is left.
func TestUnrollWhatIsThereNoTime(t *testing.T) {
	for _, part := range []*shape{a, pile(2000, a, 1000, 1000), pile(2000, a, 2, 2), pile(2000, empty, 1000, -1), pile(2000, rep(a, 0, 1), 0, 3), row(1000, api.NdCat, a, true), row(500, api.NdAlt, rep(a, 999, 1000), false)} {
		gone := rep(part, 0, 0)
		unrolls(t, gone, empty)
		unrolls(t, lazy(part, 0, 0), empty)
		unrolls(t, star(gone), star(empty))
		unrolls(t, cat(a, gone), cat(a, empty))
		unrolls(t, rep(gone, 2, 3), cat(cat(empty, empty), alt(empty, empty)))
		unrolls(t, alt(cat(hat, a), cat(gone, dollar)), alt(cat(hat, a), cat(empty, dollar)))
	}
	unrolls(t, pile(2047, a, 0, 0), empty)
	unrolls(t, row(512, api.NdCat, rep(rep(a, 1000, 1000), 0, 0), true), row(512, api.NdCat, empty, true))
}

func TestUnrollGreatTrees(t *testing.T) {
	many := map[api.Errno]int{}
	for _, s := range great() {
		many[unrollsAsTold(t, s)]++
	}
	if many[api.OK] < 10 || many[api.ErrPositions] < 2 || many[api.ErrLong] < 2 {
		t.Error(many)
	}
	unrolls(t, pile(2047, a, 1, 1), a)
	unrolls(t, pile(2047, empty, 1, 1), empty)
	if got, e := normal.Unroll(pile(9, a, 1, 2).tree()); e != api.OK || len(got.Nodes) != 2045 || tree.Weight(got) != 512 {
		t.Error(len(got.Nodes), e)
	}
}
