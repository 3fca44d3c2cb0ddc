package tide_test

import (
	"fmt"
	"math"
	"slices"
	"testing"

	"riddle/api"
	"riddle/tide"
)

// given is what calls are handed.
type given struct {
	x        api.Tide
	s        api.TideState
	w        []byte
	triggers []int
	y        api.Tree
}

// sorts are arguments of all sorts, such that may be and such that may not.
func sorts() []given {
	var l []given
	c := chance(41)
	for i, x := range append(tides(), wrong()...) {
		least := taken(x).Least
		odd := wrongStates(least)
		y := repeatOf(x.Class, x.Least, -1, c.is())
		for _, s := range []api.TideState{c.state(taken(x)), old(-1), old(0), old(least), odd[i%len(odd)]} {
			w := c.text(12, 6)
			l = append(l, given{x, s, w, c.triggers(5, len(w)), y})
		}
		spoil := spoiled()[i%len(spoiled())]
		y = repeatOf(raw('a'), 2, -1, false)
		spoil(&y.Nodes[0], &y.Nodes[1])
		l = append(l, given{x, old(0), nil, nil, api.Tree{}}, given{x, old(least), []byte("aaaa"), []int{3, 0, math.MinInt, math.MaxInt}, y})
	}
	return l
}

// answers are the lists that the calls answer for these arguments, and all else that they say.
type answers struct {
	places []int
	nodes  []api.Node
	said   string
}

func asked(g given) answers {
	s, places := tide.Run(g.x, g.s, g.w, g.triggers...)
	y, is := tide.Tree(g.x)
	x, has := tide.Of(g.y)
	said := fmt.Sprint(tide.Check(g.x), tide.CheckState(g.x, g.s), tide.New(), tide.Trigger(g.x, g.s), tide.Step(g.x, g.s, 'a'), tide.Step(g.x, g.s, 0), tide.Step(g.x, g.s, 255), tide.Ready(g.x, g.s), s, is, show(x), has)
	return answers{places, y.Nodes, said}
}

func copyOfAnswers(a answers) answers {
	return answers{slices.Clone(a.places), slices.Clone(a.nodes), a.said}
}

func equalAnswers(a, b answers) bool {
	return slices.Equal(a.places, b.places) && slices.Equal(a.nodes, b.nodes) && a.said == b.said
}

// copyOf is g in memory of its own.
func copyOf(g given) given {
	return given{g.x, g.s, slices.Clone(g.w), slices.Clone(g.triggers), api.Tree{Nodes: slices.Clone(g.y.Nodes)}}
}

// wide is a copy of l whose memory goes on behind it, filled with what is nowhere else.
func wide[T any](l []T, fill T) []T {
	w := append(slices.Clone(l), fill, fill, fill)
	return w[:len(l)]
}

// guarded is g in greater memory, so that what is written behind its lists is seen, too.
func guarded(g given) given {
	return given{g.x, g.s, wide(g.w, 77), wide(g.triggers, 77), api.Tree{Nodes: wide(g.y.Nodes, api.Node{Kind: 77})}}
}

// whole is g up to the ends of its memory.
func whole(g given) given {
	return given{g.x, g.s, g.w[:cap(g.w)], g.triggers[:cap(g.triggers)], api.Tree{Nodes: g.y.Nodes[:cap(g.y.Nodes)]}}
}

func equalGiven(a, b given) bool {
	return a.x == b.x && a.s == b.s && slices.Equal(a.w, b.w) && slices.Equal(a.triggers, b.triggers) && slices.Equal(a.y.Nodes, b.y.Nodes)
}

func fill[T any](l []T, with T) {
	for i := range l {
		l[i] = with
	}
}

// scribble writes to all memory of g.
func scribble(g given) {
	fill(g.w, '?')
	fill(g.triggers, 1)
	fill(g.y.Nodes, api.Node{Kind: 9})
}

// scribbleAnswers writes to all memory of a, also behind its lists.
func scribbleAnswers(a answers) {
	fill(a.places[:cap(a.places)], -7)
	fill(a.nodes[:cap(a.nodes)], api.Node{Kind: 9})
}

// R1

// calls fails unless the calls answer what the chapter's words do of any arguments.
func calls(t *testing.T, g given) {
	t.Helper()
	what := fmt.Sprintf("%s of %v", show(g.x), g.s)
	if (tide.Check(g.x) == api.OK) != may(g.x) {
		t.Fatalf("%s: Check", what)
	}
	if (tide.CheckState(g.x, g.s) == api.OK) != (may(g.x) && g.s.Age >= -1 && g.s.Age <= g.x.Least) {
		t.Fatalf("%s: CheckState", what)
	}
	if s := tide.Trigger(g.x, g.s); s != trigger(g.x, g.s) {
		t.Fatalf("%s: Trigger: %v", what, s)
	}
	for _, b := range []byte{'a', 'b', 0, 255} {
		if s := tide.Step(g.x, g.s, b); s != step(g.x, g.s, b) {
			t.Fatalf("%s: Step by %d: %v", what, b, s)
		}
	}
	if tide.Ready(g.x, g.s) != ready(g.x, g.s) {
		t.Fatalf("%s: Ready", what)
	}
	s, l := tide.Run(g.x, g.s, g.w, g.triggers...)
	want, places := run(g.x, g.s, g.w, g.triggers)
	isRun(t, fmt.Sprintf("%s, %q, %v", what, g.w, g.triggers), s, l, want, places)
	if y, is := tide.Tree(g.x); is != may(g.x) || is != (len(y.Nodes) == 2) {
		t.Fatalf("%s: Tree: %v %t", what, y, is)
	}
	x, is := tide.Of(g.y)
	if is && !slices.Equal(g.y.Nodes, repeatOf(x.Class, x.Least, -1, g.y.Nodes[1].Lazy).Nodes) || is != may(x) || !is && x != (api.Tide{}) {
		t.Fatalf("%v: Of: %s %t", g.y, show(x), is)
	}
}

func TestNoCallPanics(t *testing.T) {
	for _, g := range sorts() {
		calls(t, g)
	}
	c := chance(42)
	odd := []int{math.MinInt, math.MinInt + 1, -1000, -2, -1, 0, 1, 2, 64, 999, 1000, 1001, math.MaxInt - 1, math.MaxInt}
	refused, tides := 0, 0
	for range 20000 {
		x := c.tide(9)
		s := c.state(x)
		if c.is() {
			x.Least = odd[c.below(len(odd))]
		}
		if c.below(5) == 0 {
			x.Class = api.Class{}
		}
		if c.is() {
			s.Age = odd[c.below(len(odd))]
		}
		y := repeatOf(x.Class, x.Least, -1, c.is())
		if c.is() {
			spoiled()[c.below(len(spoiled()))](&y.Nodes[0], &y.Nodes[1])
		}
		y.Nodes = y.Nodes[:min(2, c.below(12))]
		w := c.text(6, 5)
		calls(t, given{x, s, w, c.triggers(4, len(w)), y})
		if tide.Check(x) != api.OK {
			refused++
		}
		if _, is := tide.Of(y); is {
			tides++
		}
	}
	if refused < 3000 || tides < 3000 {
		t.Error(refused, tides)
	}
}

// R3

func TestArgumentsAreTheirOwners(t *testing.T) {
	for _, g := range sorts() {
		x := guarded(g)
		was := copyOf(whole(x))
		a := asked(x)
		if !equalGiven(whole(x), was) {
			t.Fatalf("%s: written to", show(g.x))
		}
		kept := copyOfAnswers(a)
		scribble(whole(x))
		if !equalAnswers(a, kept) {
			t.Fatalf("%s: an answer changes with its arguments", show(g.x))
		}
	}
}

// What is written into an answer is neither in an argument nor in another answer.
func TestAnswersAreApart(t *testing.T) {
	for _, g := range sorts() {
		x := guarded(g)
		was := copyOf(whole(x))
		a, b := asked(x), asked(x)
		kept := copyOfAnswers(b)
		scribbleAnswers(a)
		if !equalAnswers(b, kept) {
			t.Fatalf("%s: answers share memory", show(g.x))
		}
		if !equalGiven(whole(x), was) {
			t.Fatalf("%s: an answer shares memory with its arguments", show(g.x))
		}
		if !equalAnswers(asked(x), kept) {
			t.Fatalf("%s: other answers once those ahead are written to", show(g.x))
		}
	}
}

// R2: beside a false there is nothing.
func TestNothingBesideAFalse(t *testing.T) {
	for _, g := range sorts() {
		if y, is := tide.Tree(g.x); !is && y.Nodes != nil {
			t.Errorf("%s: %v", show(g.x), y)
		}
		if x, is := tide.Of(g.y); !is && x != (api.Tide{}) {
			t.Errorf("%v: %s", g.y, show(x))
		}
	}
}

// R4

func TestNilAndEmptyLists(t *testing.T) {
	for _, x := range append(tides(), wrong()...) {
		for _, s := range []api.TideState{old(-1), old(0), old(x.Least)} {
			a := asked(given{x, s, nil, nil, api.Tree{}})
			b := asked(given{x, s, []byte{}, []int{}, api.Tree{Nodes: []api.Node{}}})
			if !equalAnswers(a, b) {
				t.Errorf("%s: %v, %v", show(x), a, b)
			}
		}
	}
}

// R5: a tide that no call made is refused by ErrArg, as the chapter's words have it; the state that no call made is one of Age 0, which each tide has.
func TestZeroValues(t *testing.T) {
	var zero api.Tide
	var s api.TideState
	if e := tide.Check(zero); e != api.ErrArg {
		t.Error(e)
	}
	if e := tide.CheckState(zero, s); e != api.ErrArg {
		t.Error(e)
	}
	for _, x := range tides() {
		if e := tide.CheckState(x, s); e != api.OK {
			t.Errorf("%s: %d", show(x), e)
		}
	}
	if y, is := tide.Tree(zero); is || y.Nodes != nil {
		t.Error(y, is)
	}
	isNoTide(t, "the zero tree", api.Tree{})
}

// R6

func TestSameCallsAnswerTheSame(t *testing.T) {
	for _, g := range sorts() {
		if !equalAnswers(asked(g), asked(copyOf(g))) {
			t.Fatalf("%s: other answers", show(g.x))
		}
	}
}
