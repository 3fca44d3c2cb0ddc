package parse_test

import (
	"math"
	"testing"

	"riddle/api"
	"riddle/parse"
)

// allFlags are all there are.
func allFlags() []api.Flags {
	var l []api.Flags
	for n := range 32 {
		l = append(l, api.Flags{Case: n&1 > 0, Dot: n&2 > 0, Multi: n&4 > 0, Once: n&8 > 0, Left: n&16 > 0})
	}
	return l
}

// isLeaf fails unless the leaf of x is that node.
func isLeaf(t *testing.T, x api.Token, f api.Flags, want api.Node) {
	t.Helper()
	if n, is := parse.Leaf(x, f); !is || n != want {
		t.Errorf("%v, %v: %v, %t; not %v", x, f, n, is, want)
	}
}

func aSet(l ...byte) api.Node { return api.Node{Kind: api.NdClass, Class: raw(l...)} }

// P6.1

func TestLeafOfBytes(t *testing.T) {
	for n := range 256 {
		b := byte(n)
		isLeaf(t, aByte(b), api.Flags{}, aSet(b))
		isLeaf(t, aByte(b), api.Flags{Case: true}, aSet(b, other(b)))
	}
	isLeaf(t, aByte('a'), api.Flags{Case: true}, aSet('a', 'A'))
	isLeaf(t, aByte('Z'), api.Flags{Case: true}, aSet('z', 'Z'))
	isLeaf(t, aByte('@'), api.Flags{Case: true}, aSet('@'))
	isLeaf(t, aByte(0xe1), api.Flags{Case: true}, aSet(0xe1))
}

func TestLeafOfClasses(t *testing.T) {
	isLeaf(t, aClass(raw('a', 'B', '1')), api.Flags{}, aSet('a', 'B', '1'))
	isLeaf(t, aClass(raw('a', 'B', '1')), api.Flags{Case: true}, aSet('a', 'A', 'b', 'B', '1'))
	isLeaf(t, aClass(full), api.Flags{}, api.Node{Kind: api.NdClass, Class: full})
	c := chance(1)
	for range 300 {
		set := c.class()
		for _, x := range []api.Token{aClass(set), aNot(set)} {
			for _, f := range allFlags() {
				isLeaf(t, x, f, leafOf(x, f).node)
			}
		}
	}
}

// Not comes behind the case: what is not a is neither a nor A then.
func TestLeafOfNot(t *testing.T) {
	notA := where(func(b byte) bool { return b != 'a' })
	isLeaf(t, aNot(raw('a')), api.Flags{}, api.Node{Kind: api.NdClass, Class: notA})
	neither := where(func(b byte) bool { return b != 'a' && b != 'A' })
	isLeaf(t, aNot(raw('a')), api.Flags{Case: true}, api.Node{Kind: api.NdClass, Class: neither})
	isLeaf(t, aNot(raw('1')), api.Flags{Case: true}, api.Node{Kind: api.NdClass, Class: where(func(b byte) bool { return b != '1' })})
	// All but a are with Case all: there is no byte left.
	isLeaf(t, aNot(notA), api.Flags{}, aSet('a'))
	isLeaf(t, aNot(notA), api.Flags{Case: true}, aSet())
}

func TestLeafOfDot(t *testing.T) {
	for _, f := range allFlags() {
		want := noNewline
		if f.Dot {
			want = full
		}
		isLeaf(t, dot, f, api.Node{Kind: api.NdClass, Class: want})
	}
}

func TestLeafOfAnchors(t *testing.T) {
	for _, f := range allFlags() {
		isLeaf(t, hat, f, api.Node{Kind: api.NdHat})
		isLeaf(t, dollar, f, api.Node{Kind: api.NdDollar})
	}
}

// Case and Dot alone count, each for its own kinds.
func TestLeafWithOtherFlags(t *testing.T) {
	for _, f := range allFlags() {
		few := api.Flags{Case: f.Case, Dot: f.Dot}
		for _, x := range []api.Token{aByte('x'), aClass(raw('x', 10)), aNot(raw('X')), dot, hat, dollar} {
			want, _ := parse.Leaf(x, few)
			isLeaf(t, x, f, want)
		}
		isLeaf(t, aByte(10), f, aSet(10))
	}
}

func TestLeafWhereverItStands(t *testing.T) {
	for _, at := range []int{1, 77, math.MaxInt} {
		for _, x := range []api.Token{aByte('x'), aClass(raw('x')), dot, hat, dollar} {
			x.At = at
			isLeaf(t, x, api.Flags{}, leafOf(x, api.Flags{}).node)
		}
	}
}

func TestNoLeaf(t *testing.T) {
	l := []api.Token{open, shut, bar, star, aRepeat(2, 3), aLazy(1, 1), {}}
	for _, kind := range []int{math.MinInt, -1, 0, 10, 11, 257, 258, math.MaxInt} {
		l = append(l, api.Token{Kind: kind, Byte: 'a', Class: raw('a')})
	}
	for _, x := range l {
		for _, f := range allFlags() {
			if n, is := parse.Leaf(x, f); is || n != (api.Node{}) {
				t.Errorf("%v, %v: %v, %t", x, f, n, is)
			}
		}
	}
}
