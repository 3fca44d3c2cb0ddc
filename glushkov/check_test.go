package glushkov_test

import (
	"testing"

	"riddle/api"
	"riddle/glushkov"
)

// P10.1

func TestCheckTakes(t *testing.T) {
	for _, m := range machines() {
		if e := glushkov.Check(m.nfa()); e != api.OK {
			t.Errorf("%s: %d", show(m.nfa()), e)
		}
	}
}

func TestCheckRefuses(t *testing.T) {
	for _, n := range wrong() {
		if e := glushkov.Check(n); e != api.ErrNfa {
			t.Errorf("%s: %d", show(n), e)
		}
	}
}

func TestCheckOfManyPositions(t *testing.T) {
	for _, x := range []struct {
		many int
		want api.Errno
	}{{0, api.OK}, {1, api.OK}, {511, api.OK}, {512, api.OK}, {513, api.ErrNfa}, {514, api.ErrNfa}, {1024, api.ErrNfa}, {8192, api.ErrNfa}} {
		n := api.Nfa{Classes: make([]api.Class, x.many), First: put(x.many), Last: put(x.many)}
		for range x.many {
			n.Follow = append(n.Follow, n.First)
		}
		if e := glushkov.Check(n); e != x.want {
			t.Errorf("%d positions: %d", x.many, e)
		}
	}
}

func TestCheckOfSetsOfFollow(t *testing.T) {
	for many := range 6 {
		for sets := range 8 {
			n := api.Nfa{Classes: make([]api.Class, many), First: put(many), Last: put(many)}
			for range sets {
				n.Follow = append(n.Follow, put(many))
			}
			want := api.ErrNfa
			if sets == many {
				want = api.OK
			}
			if e := glushkov.Check(n); e != want {
				t.Errorf("%d positions, %d sets: %d", many, sets, e)
			}
		}
	}
}

// Each of the sets alone has another N.
func TestCheckOfEachN(t *testing.T) {
	for _, many := range []int{1, 2, 5, 63, 64, 65, 128} {
		for at := -2; at < many; at++ {
			for other := max(0, many-2); other <= many+2; other++ {
				n := blank(many).nfa()
				*setAt(&n, at) = put(other)
				want := api.ErrNfa
				if other == many {
					want = api.OK
				}
				if e := glushkov.Check(n); e != want {
					t.Fatalf("%d positions, set %d of N %d: %d", many, at, other, e)
				}
			}
		}
	}
}

// All bits of the last word but those of a number are refused, in each of the sets.
func TestCheckOfEachBit(t *testing.T) {
	for _, many := range []int{1, 2, 40, 63, 64, 65} {
		for at := -2; at < min(many, 3); at++ {
			for bit := range (many + 63) / 64 * 64 {
				n := blank(many).nfa()
				setAt(&n, at).Words[bit/64] |= 1 << (bit % 64)
				want := api.ErrNfa
				if bit < many {
					want = api.OK
				}
				if e := glushkov.Check(n); e != want {
					t.Fatalf("%d positions, bit %d of the set %d: %d", many, bit, at, e)
				}
			}
		}
	}
}

// What no call made has no positions, and its sets are of N 0: by the chapter's words it may be.
func TestCheckOfWhatNoCallMade(t *testing.T) {
	for _, n := range []api.Nfa{{}, {Classes: []api.Class{}, Follow: []api.Bits{}}, {First: api.Bits{Words: []uint64{}}, Last: api.Bits{Words: []uint64{}}}, {Null: true}} {
		if e := glushkov.Check(n); e != api.OK {
			t.Errorf("%s: %d", show(n), e)
		}
	}
	if e := glushkov.Check(api.Nfa{Classes: make([]api.Class, 1), Follow: make([]api.Bits, 1)}); e != api.ErrNfa {
		t.Errorf("a position without sets: %d", e)
	}
}

func TestEmpty(t *testing.T) {
	n := glushkov.Empty()
	if len(n.Classes) != 0 || len(n.Follow) != 0 || !n.Null {
		t.Error(show(n))
	}
	if n.First.N != 0 || len(n.First.Words) != 0 || n.Last.N != 0 || len(n.Last.Words) != 0 {
		t.Error(show(n))
	}
}

func TestLeaf(t *testing.T) {
	for _, c := range []api.Class{raw('a'), raw(0), raw(255), raw('a', 'b', 200), {}, {1, 2, 3, 4}, {^uint64(0), ^uint64(0), ^uint64(0), ^uint64(0)}} {
		n := glushkov.Leaf(c)
		if len(n.Classes) != 1 || n.Classes[0] != c || n.Null {
			t.Error(show(n))
		}
		if !equalSet(n.First, put(1, 0)) || !equalSet(n.Last, put(1, 0)) {
			t.Error(show(n))
		}
		if len(n.Follow) != 1 || !equalSet(n.Follow[0], put(1)) {
			t.Error(show(n))
		}
	}
}
