package glushkov_test

import (
	"testing"

	"riddle/api"
	"riddle/glushkov"
)

// P10.2

type joins func(a, b api.Nfa) (api.Nfa, api.Errno)

// both are the calls that join two, and how the tables of the tests do it.
func both() map[string]struct {
	call joins
	want func(a, b machine) machine
} {
	return map[string]struct {
		call joins
		want func(a, b machine) machine
	}{"Cat": {glushkov.Cat, machine.cat}, "Alt": {glushkov.Alt, machine.alt}}
}

func isNfa(t *testing.T, what string, n api.Nfa, e api.Errno, want api.Nfa) {
	t.Helper()
	if e != api.OK || !equal(n, want) {
		t.Fatalf("%s: error %d, %s, not %s", what, e, show(n), show(want))
	}
}

func isError(t *testing.T, what string, n api.Nfa, e, want api.Errno) {
	t.Helper()
	if e != want || !isZero(n) {
		t.Fatalf("%s: error %d, not %d, and %s", what, e, want, show(n))
	}
}

func TestJoinsOfEachTwo(t *testing.T) {
	l := machines()
	for name, j := range both() {
		for _, p := range l {
			for _, q := range l {
				n, e := j.call(p.nfa(), q.nfa())
				isNfa(t, name, n, e, j.want(p, q).nfa())
			}
		}
	}
}

func TestStarOfEach(t *testing.T) {
	for _, m := range machines() {
		n, e := glushkov.Star(m.nfa())
		isNfa(t, "Star", n, e, m.star().nfa())
	}
}

// nfa is an automaton written out: its First, its Last, and pairs of Follow.
func nfa(classes string, null bool, first, last []int, edges ...[2]int) api.Nfa {
	m := blank(len(classes))
	m.null = null
	for p := range classes {
		m.classes[p] = raw(classes[p])
	}
	for _, p := range first {
		m.first[p] = true
	}
	for _, p := range last {
		m.last[p] = true
	}
	for _, x := range edges {
		m.follow[x[0]][x[1]] = true
	}
	return m.nfa()
}

// xy takes x and behind it y, x alone, and the empty text, if null holds; z takes z and behind it any number of z.
func xy(null bool) api.Nfa { return nfa("xy", null, []int{0}, []int{0, 1}, [2]int{0, 1}) }

func z(null bool) api.Nfa { return nfa("z", null, []int{0}, []int{0}, [2]int{0, 0}) }

func TestCatByHand(t *testing.T) {
	edges := [][2]int{{0, 1}, {0, 2}, {1, 2}, {2, 2}}
	for _, x := range []struct {
		a, b        bool
		first, last []int
	}{
		{false, false, []int{0}, []int{2}},
		{true, false, []int{0, 2}, []int{2}},
		{false, true, []int{0}, []int{0, 1, 2}},
		{true, true, []int{0, 2}, []int{0, 1, 2}},
	} {
		n, e := glushkov.Cat(xy(x.a), z(x.b))
		isNfa(t, "Cat", n, e, nfa("xyz", x.a && x.b, x.first, x.last, edges...))
	}
	// The other way round it is z's number that stays.
	n, e := glushkov.Cat(z(true), xy(false))
	isNfa(t, "Cat", n, e, nfa("zxy", false, []int{0, 1}, []int{1, 2}, [2]int{0, 0}, [2]int{0, 1}, [2]int{1, 2}))
}

func TestAltByHand(t *testing.T) {
	for _, null := range [][2]bool{{false, false}, {true, false}, {false, true}, {true, true}} {
		n, e := glushkov.Alt(xy(null[0]), z(null[1]))
		isNfa(t, "Alt", n, e, nfa("xyz", null[0] || null[1], []int{0, 2}, []int{0, 1, 2}, [2]int{0, 1}, [2]int{2, 2}))
		n, e = glushkov.Alt(z(null[0]), xy(null[1]))
		isNfa(t, "Alt", n, e, nfa("zxy", null[0] || null[1], []int{0, 1}, []int{0, 1, 2}, [2]int{0, 0}, [2]int{1, 2}))
	}
}

func TestStarByHand(t *testing.T) {
	n, e := glushkov.Star(glushkov.Empty())
	isNfa(t, "Star of Empty", n, e, nfa("", true, nil, nil))
	n, e = glushkov.Star(api.Nfa{})
	isNfa(t, "Star of nothing", n, e, nfa("", true, nil, nil))
	n, e = glushkov.Star(glushkov.Leaf(raw('x')))
	isNfa(t, "Star of Leaf", n, e, nfa("x", true, []int{0}, []int{0}, [2]int{0, 0}))
	for _, null := range []bool{true, false} {
		n, e = glushkov.Star(xy(null))
		isNfa(t, "Star", n, e, nfa("xy", true, []int{0}, []int{0, 1}, [2]int{0, 0}, [2]int{0, 1}, [2]int{1, 0}))
		// Its Last and First meet already.
		n, e = glushkov.Star(z(null))
		isNfa(t, "Star", n, e, z(true))
	}
	// Nothing comes behind, if none is First or none is Last.
	n, e = glushkov.Star(nfa("xy", false, nil, []int{0, 1}))
	isNfa(t, "Star", n, e, nfa("xy", true, nil, []int{0, 1}))
	n, e = glushkov.Star(nfa("xy", false, []int{1}, nil, [2]int{1, 0}))
	isNfa(t, "Star", n, e, nfa("xy", true, []int{1}, nil, [2]int{1, 0}))
}

func TestJoinsOfNoPositions(t *testing.T) {
	none, null := api.Nfa{}, glushkov.Empty()
	l := []api.Nfa{none, null}
	for _, m := range machines() {
		l = append(l, m.nfa())
	}
	for _, n := range l {
		got, e := glushkov.Cat(null, n)
		isNfa(t, "Cat of Empty and one", got, e, n)
		got, e = glushkov.Cat(n, null)
		isNfa(t, "Cat of one and Empty", got, e, n)
		got, e = glushkov.Alt(none, n)
		isNfa(t, "Alt of nothing and one", got, e, n)
		got, e = glushkov.Alt(n, none)
		isNfa(t, "Alt of one and nothing", got, e, n)

		with := n
		with.Null = true
		got, e = glushkov.Alt(null, n)
		isNfa(t, "Alt of Empty and one", got, e, with)
		got, e = glushkov.Alt(n, null)
		isNfa(t, "Alt of one and Empty", got, e, with)

		// Behind nothing, and ahead of nothing, no text comes to its end.
		many := len(n.Classes)
		late, early := n, n
		late.First, late.Null = put(many), false
		got, e = glushkov.Cat(none, n)
		isNfa(t, "Cat of nothing and one", got, e, late)
		early.Last, early.Null = put(many), false
		got, e = glushkov.Cat(n, none)
		isNfa(t, "Cat of one and nothing", got, e, early)
	}
}

// Numbers of b come to stand on both sides of the end of a word, and of several.
func TestJoinsOverWords(t *testing.T) {
	r := chance(11)
	for _, k := range []int{1, 2, 62, 63, 64, 65, 66, 127, 128, 129, 191, 255, 256, 320} {
		for _, l := range []int{1, 2, 3, 63, 64, 65, 128, 130, 192} {
			p, q := r.machine(k), r.machine(l)
			for name, j := range both() {
				n, e := j.call(p.nfa(), q.nfa())
				isNfa(t, name, n, e, j.want(p, q).nfa())
			}
		}
		m := r.machine(k)
		n, e := glushkov.Star(m.nfa())
		isNfa(t, "Star", n, e, m.star().nfa())
	}
}

func TestJoinsAtMaxPositions(t *testing.T) {
	r := chance(12)
	made := map[int]machine{}
	of := func(many int) machine {
		if _, is := made[many]; !is {
			made[many] = r.machine(many)
		}
		return made[many]
	}
	for name, j := range both() {
		for _, x := range [][2]int{{512, 0}, {0, 512}, {511, 1}, {1, 511}, {256, 256}, {449, 63}, {64, 448}} {
			n, e := j.call(of(x[0]).nfa(), of(x[1]).nfa())
			isNfa(t, name, n, e, j.want(of(x[0]), of(x[1])).nfa())
		}
		for _, x := range [][2]int{{512, 1}, {1, 512}, {257, 256}, {256, 257}, {449, 64}, {512, 512}} {
			n, e := j.call(of(x[0]).nfa(), of(x[1]).nfa())
			isError(t, name, n, e, api.ErrPositions)
		}
	}
	n, e := glushkov.Star(of(512).nfa())
	isNfa(t, "Star", n, e, of(512).star().nfa())
}

func TestJoinsOfWhatMayNotBe(t *testing.T) {
	good := []api.Nfa{{}, glushkov.Empty(), xy(true), z(false), blank(512).nfa()}
	for _, n := range wrong() {
		for name, j := range both() {
			for _, g := range good {
				got, e := j.call(n, g)
				isError(t, name, got, e, api.ErrNfa)
				got, e = j.call(g, n)
				isError(t, name, got, e, api.ErrNfa)
			}
			got, e := j.call(n, n)
			isError(t, name, got, e, api.ErrNfa)
		}
		got, e := glushkov.Star(n)
		isError(t, "Star", got, e, api.ErrNfa)
	}
}

// ErrNfa is told ahead of ErrPositions, whichever of both may not be.
func TestWhichErrorComesFirst(t *testing.T) {
	great := blank(512).nfa()
	bad := blank(512).nfa()
	bad.Follow[511].N = 511
	more := blank(513).nfa()
	for name, j := range both() {
		for _, n := range []api.Nfa{bad, more} {
			got, e := j.call(great, n)
			isError(t, name, got, e, api.ErrNfa)
			got, e = j.call(n, great)
			isError(t, name, got, e, api.ErrNfa)
		}
		got, e := j.call(great, great)
		isError(t, name, got, e, api.ErrPositions)
	}
	got, e := glushkov.Star(more)
	isError(t, "Star", got, e, api.ErrNfa)
}
