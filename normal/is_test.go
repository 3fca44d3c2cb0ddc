package normal_test

import (
	"testing"

	"riddle/api"
	"riddle/normal"
	"riddle/tree"
)

// P9.1 Is

func TestIsOfWhatMayNotBe(t *testing.T) {
	for _, x := range refused() {
		if tree.Check(x) != api.ErrTree {
			t.Fatal("it may be:", text(x))
		}
		if normal.Is(x) {
			t.Errorf("%s: it is plain", text(x))
		}
	}
}

// An anchor where it cannot stand is nothing to Is.
func TestIsOfAnchorsAstray(t *testing.T) {
	plain := 0
	for _, s := range astray() {
		x := s.tree()
		if tree.Check(x) != api.ErrAnchor {
			t.Fatal("it may be:", text(x))
		}
		if normal.Is(x) != s.isPlain() {
			t.Errorf("%s: %t", text(x), !s.isPlain())
		}
		if s.isPlain() {
			plain++
		}
	}
	if plain < 10 || plain > len(astray())-5 {
		t.Errorf("%d are plain", plain)
	}
	if !normal.Is(star(hat).tree()) || !normal.Is(cat(a, hat).tree()) || normal.Is(rep(hat, 1, 1).tree()) || normal.Is(lazy(hat, 0, -1).tree()) {
		t.Error("^ in a repeat, ^ behind a")
	}
}

func TestIsOfRepeats(t *testing.T) {
	for _, x := range []struct {
		s    *shape
		want bool
	}{
		{empty, true}, {a, true}, {never, true}, {hat, true}, {dollar, true}, {cat(a, b), true}, {alt(a, b), true},
		{star(a), true}, {star(empty), true}, {star(star(a)), true}, {star(never), true}, {cat(hat, cat(star(a), dollar)), true},
		{lazy(a, 0, -1), false}, {rep(a, 1, -1), false}, {lazy(a, 1, -1), false}, {rep(a, 2, -1), false}, {rep(a, 1000, -1), false},
		{rep(a, 0, 0), false}, {rep(a, 0, 1), false}, {rep(a, 1, 1), false}, {rep(a, 0, 1000), false}, {rep(a, 1000, 1000), false}, {rep(a, 3, 7), false}, {rep(empty, 0, 1), false},
		{star(rep(a, 0, 1)), false}, {rep(star(a), 0, 1), false}, {star(lazy(a, 0, -1)), false}, {cat(a, rep(b, 1, -1)), false}, {alt(rep(a, 2, 2), b), false}, {cat(star(a), lazy(b, 0, -1)), false},
	} {
		if got := normal.Is(x.s.tree()); got != x.want {
			t.Errorf("%s: %t", text(x.s.tree()), got)
		}
	}
}

func TestIsOfRepeatsDeepInATree(t *testing.T) {
	for _, other := range []*shape{rep(a, 1, -1), rep(a, 0, 1), lazy(a, 0, -1), star(a)} {
		want := other.isPlain()
		for _, deep := range []int{1, 2, 100, 1000} {
			s, up := other, star(other)
			for i := range deep {
				s = []*shape{cat(s, b), alt(star(b), s), cat(b, s)}[i%3]
				up = star(up)
			}
			for _, x := range []*shape{s, cat(hat, s), star(s), up, cat(star(row(200, api.NdCat, b, true)), up)} {
				if len(x.tree().Nodes) > api.MaxNodes {
					continue
				}
				if normal.Is(x.tree()) != want {
					t.Fatalf("%d deep: %t", deep, !want)
				}
			}
		}
	}
	// One of 2,047 repeats is another one.
	for _, at := range []int{1, 2, 1000, 2046, 2047} {
		x := pile(2047, a, 0, -1).tree()
		if !normal.Is(x) {
			t.Fatal("a pile of stars")
		}
		for _, n := range []api.Node{{Least: 1, Most: -1}, {Most: 1}, {Most: -1, Lazy: true}} {
			n.Kind, n.A = api.NdRep, at-1
			x.Nodes[at] = n
			if normal.Is(x) {
				t.Errorf("%v at %d", n, at)
			}
		}
	}
}

func TestIsOfShapes(t *testing.T) {
	many := map[bool]int{}
	for nodes := 1; nodes <= 5; nodes++ {
		each(nodes, []*shape{empty, a, hat, dollar}, func(s *shape) {
			want := s.isPlain()
			many[want]++
			if normal.Is(s.tree()) != want {
				t.Fatalf("%s: %t", text(s.tree()), !want)
			}
		})
	}
	if many[true] < 800 || many[false] < 2000 {
		t.Error(many)
	}
}

// P9.1 Positions

// of is a branch of a shape, with both anchors, which are nothing to its weight.
func of(s *shape) api.Branch { return api.Branch{Hat: true, Dollar: true, Tree: s.tree()} }

// twoTo is a tree of 2^n classes, when its repeats are unrolled.
func twoTo(n int) *shape {
	s := a
	for ; n >= 9; n -= 9 {
		s = rep(s, 512, 512)
	}
	return rep(s, 1<<n, 1<<n)
}

func hasPositions(t *testing.T, want int, l ...api.Branch) {
	t.Helper()
	if got := normal.Positions(l...); got != want {
		t.Errorf("%d positions, not %d", got, want)
	}
}

func TestPositions(t *testing.T) {
	hasPositions(t, 0)
	hasPositions(t, 0, nil...)
	hasPositions(t, 0, []api.Branch{}...)
	hasPositions(t, 0, of(empty))
	hasPositions(t, 1, of(a))
	hasPositions(t, 1, api.Branch{Tree: never.tree()})
	hasPositions(t, 3, of(alt(cat(a, b), c)))
	hasPositions(t, 7, of(cat(rep(a, 3, 5), rep(b, 1, -1))))
	hasPositions(t, 1001, of(rep(a, 1000, -1)))
	hasPositions(t, 6, of(a), of(cat(a, b)), of(empty), of(rep(a, 0, 3)))
	hasPositions(t, 2, of(a), of(a))
	hasPositions(t, 40, of(rep(a, 10, 10)), of(rep(a, 10, 10)), of(rep(a, 10, 10)), of(rep(a, 10, 10)))
	// Of any tree, as tree.Weight takes it.
	hasPositions(t, 2, of(cat(a, cat(hat, b))))
	hasPositions(t, 0, api.Branch{})
	for _, x := range refused() {
		hasPositions(t, 0, api.Branch{Tree: x})
		hasPositions(t, 2, of(a), api.Branch{Hat: true, Tree: x}, of(b))
	}
}

func TestPositionsUpToMaxWidth(t *testing.T) {
	all := api.MaxWidth
	hasPositions(t, all/2, of(twoTo(29)))
	hasPositions(t, all, of(twoTo(30)))
	hasPositions(t, all, of(twoTo(31)))
	hasPositions(t, all, of(pile(2047, a, 1000, 1000)))
	hasPositions(t, all, of(twoTo(29)), of(twoTo(29)))
	hasPositions(t, all, of(twoTo(29)), of(twoTo(29)), of(a))
	hasPositions(t, all, of(twoTo(30)), of(twoTo(30)))
	hasPositions(t, all, of(a), of(twoTo(30)), of(a))
	// 2^29 and 2^28 and so on to 1: one less than 2^30.
	var l []api.Branch
	for n := range 30 {
		l = append(l, of(twoTo(n)))
	}
	hasPositions(t, all-1, l...)
	hasPositions(t, all-1, append(l, of(empty))...)
	hasPositions(t, all, append(l, of(a))...)
	hasPositions(t, all, append(l, of(a), of(a))...)
	hasPositions(t, all, append(l, of(cat(a, b)))...)
	hasPositions(t, all, append(l, l...)...)
	for range 50 {
		l = append(l, of(pile(2047, a, 1000, 1000)))
	}
	hasPositions(t, all, l...)
}
