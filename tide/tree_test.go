package tide_test

import (
	"fmt"
	"math"
	"slices"
	"testing"

	"riddle/api"
	"riddle/parse"
	"riddle/tide"
	"riddle/tree"
)

// repeatOf is the tree of a class from least to most times, node by node.
func repeatOf(c api.Class, least, most int, lazy bool) api.Tree {
	return api.Tree{Nodes: []api.Node{
		{Kind: api.NdClass, Class: c},
		{Kind: api.NdRep, A: 0, Least: least, Most: most, Lazy: lazy},
	}}
}

func isNoTide(t *testing.T, what string, y api.Tree) {
	t.Helper()
	if x, is := tide.Of(y); is || x != (api.Tide{}) {
		t.Errorf("%s: %s %t", what, show(x), is)
	}
}

// P14.3

func TestTree(t *testing.T) {
	for _, x := range tides() {
		y, is := tide.Tree(x)
		if !is || !slices.Equal(y.Nodes, repeatOf(x.Class, x.Least, -1, false).Nodes) {
			t.Errorf("%s: %v %t", show(x), y, is)
		}
		if e := tree.Check(y); e != api.OK {
			t.Errorf("%s: %d", show(x), e)
		}
	}
	for _, x := range wrong() {
		if y, is := tide.Tree(x); is || y.Nodes != nil {
			t.Errorf("%s: %v %t", show(x), y, is)
		}
	}
}

func TestOf(t *testing.T) {
	for _, x := range tides() {
		y, _ := tide.Tree(x)
		if got, is := tide.Of(y); !is || got != x {
			t.Errorf("%s: %s %t", show(x), show(got), is)
		}
		for _, lazy := range []bool{false, true} {
			if got, is := tide.Of(repeatOf(x.Class, x.Least, -1, lazy)); !is || got != x {
				t.Errorf("%s, lazy %t: %s %t", show(x), lazy, show(got), is)
			}
		}
	}
}

// What patterns say is a tide, or not.
func TestOfPatterns(t *testing.T) {
	word := raw([]byte("0123456789ABCDEFGHIJKLMNOPQRSTUVWXYZ_abcdefghijklmnopqrstuvwxyz")...)
	for _, x := range []struct {
		pattern string
		want    api.Tide
		is      bool
	}{
		{"a{2,}", of("a", 2), true},
		{"a{2,}?", of("a", 2), true},
		{"a*", of("a", 0), true},
		{"a*?", of("a", 0), true},
		{"a+", of("a", 1), true},
		{"(?:a)+?", of("a", 1), true},
		{"(?:a+)", of("a", 1), true},
		{"[abc]{1000,}", of("abc", 1000), true},
		{`\w{17,}`, api.Tide{Class: word, Least: 17}, true},
		{`[\x00-\xff]{3,}`, api.Tide{Class: full, Least: 3}, true},
		{"a", api.Tide{}, false},
		{"", api.Tide{}, false},
		{"a?", api.Tide{}, false},
		{"a{2}", api.Tide{}, false},
		{"a{2,5}", api.Tide{}, false},
		{"a{2,1000}", api.Tide{}, false},
		{"(?:a|b)+", api.Tide{}, false},
		{"(?:ab)+", api.Tide{}, false},
		{"(?:)*", api.Tide{}, false},
		{"(?:a+)*", api.Tide{}, false},
		{"aa*", api.Tide{}, false},
		{"a+b", api.Tide{}, false},
		{"a+|b", api.Tide{}, false},
		{"^a+", api.Tide{}, false},
		{"a+$", api.Tide{}, false},
		{"^", api.Tide{}, false},
		{"$", api.Tide{}, false},
	} {
		y, at, e := parse.Parse([]byte(x.pattern), api.Flags{})
		// A pattern that the grammar does not have says no tree, and that is no tide either.
		if e != api.OK && x.is {
			t.Fatalf("%s: %d at %d", x.pattern, e, at)
		}
		if got, is := tide.Of(y); is != x.is || got != x.want {
			t.Errorf("%s: %s %t", x.pattern, show(got), is)
		}
	}
}

// Trees that may be, but are no tide's.
func TestOfOtherTrees(t *testing.T) {
	a := tree.Leaf(api.Node{Kind: api.NdClass, Class: raw('a')})
	b := tree.Leaf(api.Node{Kind: api.NdClass, Class: raw('b')})
	star := tree.Repeat(a, 0, -1, false)
	for _, kind := range []int{api.NdEmpty, api.NdClass, api.NdHat, api.NdDollar} {
		leaf := tree.Leaf(api.Node{Kind: kind})
		isNoTide(t, fmt.Sprint("the leaf ", kind), leaf)
		isNoTide(t, fmt.Sprint("a repeat of the leaf ", kind), tree.Repeat(leaf, 2, -1, false))
	}
	for _, kind := range []int{api.NdCat, api.NdAlt} {
		isNoTide(t, fmt.Sprint("both, joined by ", kind), tree.Join(kind, a, b))
		isNoTide(t, fmt.Sprint("a repeat of both, joined by ", kind), tree.Repeat(tree.Join(kind, a, b), 2, -1, false))
		isNoTide(t, fmt.Sprint("the same twice, joined by ", kind), tree.Repeat(tree.Join(kind, a, a), 2, -1, false))
		isNoTide(t, fmt.Sprint("a tide ahead of a class, joined by ", kind), tree.Join(kind, star, b))
		isNoTide(t, fmt.Sprint("a tide behind a class, joined by ", kind), tree.Join(kind, b, star))
		isNoTide(t, fmt.Sprint("tides joined by ", kind), tree.Join(kind, star, star))
	}
	isNoTide(t, "a class", a)
	isNoTide(t, "a repeat of a repeat", tree.Repeat(star, 0, -1, false))
	for _, lazy := range []bool{false, true} {
		for _, least := range []int{0, 1, 2, 999, 1000} {
			for _, most := range []int{least, least + 1, 1000} {
				isNoTide(t, fmt.Sprintf("%d to %d times", least, most), tree.Repeat(a, least, most, lazy))
			}
			isNoTide(t, fmt.Sprintf("no bytes, from %d on", least), repeatOf(api.Class{}, least, -1, lazy))
		}
	}
}

// Trees that may not be at all.
func TestOfTreesThatMayNotBe(t *testing.T) {
	isNoTide(t, "no nodes", api.Tree{})
	isNoTide(t, "an empty list", api.Tree{Nodes: []api.Node{}})
	isNoTide(t, "a repeat of nothing", api.Tree{Nodes: []api.Node{{Kind: api.NdRep, Most: -1}}})
	isNoTide(t, "zero nodes", api.Tree{Nodes: make([]api.Node, 2)})
	for _, least := range []int{math.MinInt, -1000, -1, 1001, math.MaxInt} {
		isNoTide(t, fmt.Sprint("Least ", least), repeatOf(raw('a'), least, -1, false))
	}
	for _, most := range []int{math.MinInt, -3, -2, 1001, math.MaxInt} {
		isNoTide(t, fmt.Sprint("Most ", most), repeatOf(raw('a'), 0, most, false))
	}
	good := repeatOf(raw('a'), 2, -1, false).Nodes
	isNoTide(t, "turned round", api.Tree{Nodes: []api.Node{good[1], good[0]}})
	isNoTide(t, "one more ahead", api.Tree{Nodes: []api.Node{good[0], good[0], {Kind: api.NdRep, A: 1, Least: 2, Most: -1}}})
	isNoTide(t, "one more behind", api.Tree{Nodes: append(slices.Clone(good), good[0])})
	isNoTide(t, "the repeat twice", api.Tree{Nodes: append(slices.Clone(good), good[1])})
	isNoTide(t, "more than a tree may have", api.Tree{Nodes: slices.Repeat(good, 2000)})
}

// spoiled are the fields of a tide's tree that are not as they must be, one at a time.
func spoiled() []func(part, root *api.Node) {
	return []func(part, root *api.Node){
		func(part, root *api.Node) { part.Kind = 0 },
		func(part, root *api.Node) { part.Kind = api.NdEmpty },
		func(part, root *api.Node) { part.Kind = api.NdHat },
		func(part, root *api.Node) { part.Kind = api.NdRep },
		func(part, root *api.Node) { part.Kind = math.MaxInt },
		func(part, root *api.Node) { part.Class = api.Class{} },
		func(part, root *api.Node) { part.A = 1 },
		func(part, root *api.Node) { part.A = -1 },
		func(part, root *api.Node) { part.B = 1 },
		func(part, root *api.Node) { part.Least = 1 },
		func(part, root *api.Node) { part.Most = -1 },
		func(part, root *api.Node) { part.Most = 1 },
		func(part, root *api.Node) { part.Lazy = true },
		func(part, root *api.Node) { root.Kind = 0 },
		func(part, root *api.Node) { root.Kind = api.NdClass },
		func(part, root *api.Node) { root.Kind = api.NdCat },
		func(part, root *api.Node) { root.Kind = api.NdAlt },
		func(part, root *api.Node) { root.Kind = -api.NdRep },
		func(part, root *api.Node) { root.Class = part.Class },
		func(part, root *api.Node) { root.Class = raw(255) },
		func(part, root *api.Node) { root.A = 1 },
		func(part, root *api.Node) { root.A = 2 },
		func(part, root *api.Node) { root.A = -1 },
		func(part, root *api.Node) { root.B = 1 },
		func(part, root *api.Node) { root.Least = -1 },
		func(part, root *api.Node) { root.Least = 1001 },
		func(part, root *api.Node) { root.Most = 0 },
		func(part, root *api.Node) { root.Most = -2 },
		func(part, root *api.Node) { root.Most = 1000 },
	}
}

func TestOfSpoiledTrees(t *testing.T) {
	for _, lazy := range []bool{false, true} {
		for i, spoil := range spoiled() {
			y := repeatOf(raw('a'), 2, -1, lazy)
			spoil(&y.Nodes[0], &y.Nodes[1])
			isNoTide(t, fmt.Sprint("spoiled by ", i), y)
		}
	}
}
