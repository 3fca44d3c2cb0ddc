package glushkov_test

import (
	"math"
	"slices"
	"testing"

	"riddle/api"
	"riddle/glushkov"
	"riddle/normal"
)

// answers are all automata that the calls of the package answer for two.
func answers(x, y api.Nfa) []api.Nfa {
	var l []api.Nfa
	add := func(n api.Nfa, _ api.Errno) { l = append(l, n) }
	for range 2 {
		add(glushkov.Cat(x, y))
		add(glushkov.Cat(y, x))
		add(glushkov.Cat(x, x))
		add(glushkov.Alt(x, y))
		add(glushkov.Alt(y, x))
		add(glushkov.Alt(y, y))
		add(glushkov.Star(x))
		add(glushkov.Star(y))
		add(glushkov.Clone(x), api.OK)
		add(glushkov.Clone(y), api.OK)
	}
	return l
}

// made are the automata of calls that no automaton is handed to.
func made() []api.Nfa {
	var l []api.Nfa
	for range 2 {
		l = append(l, glushkov.Empty(), glushkov.Leaf(raw('a')), glushkov.Leaf(raw('a')), glushkov.Leaf(api.Class{}))
		for _, s := range []*shape{empty, a, star(a), cat(a, b), alt(a, empty), star(star(cat(a, star(b)))), cat(star(a), alt(b, cat(a, star(ab)))), row(100, api.NdCat, star(a), true), row(70, api.NdAlt, a, false)} {
			n, _ := glushkov.Of(s.tree())
			l = append(l, n)
		}
	}
	return l
}

func copies(l []api.Nfa) []api.Nfa {
	var all []api.Nfa
	for _, n := range l {
		all = append(all, copyOf(n))
	}
	return all
}

// copyOf is n in memory of its own, without a call of the package.
func copyOf(n api.Nfa) api.Nfa {
	n.Classes = slices.Clone(n.Classes)
	n.First.Words, n.Last.Words = slices.Clone(n.First.Words), slices.Clone(n.Last.Words)
	n.Follow = slices.Clone(n.Follow)
	for p := range n.Follow {
		n.Follow[p].Words = slices.Clone(n.Follow[p].Words)
	}
	return n
}

// wide is a copy of l whose memory goes on behind it, filled with what is nowhere else.
func wide[T any](l []T, fill T) []T {
	w := append(slices.Clone(l), fill, fill, fill)
	return w[:len(l)]
}

// guarded is n in greater memory, so that what is written behind its lists is seen, too.
func guarded(n api.Nfa) api.Nfa {
	n.Classes = wide(n.Classes, api.Class{77})
	n.First.Words, n.Last.Words = wide(n.First.Words, 77), wide(n.Last.Words, 77)
	n.Follow = wide(n.Follow, api.Bits{N: 77})
	for p := range n.Follow {
		n.Follow[p].Words = wide(n.Follow[p].Words, 77)
	}
	return n
}

// whole is n up to the ends of its memory.
func whole(n api.Nfa) api.Nfa {
	n.Classes = n.Classes[:cap(n.Classes)]
	n.First.Words, n.Last.Words = n.First.Words[:cap(n.First.Words)], n.Last.Words[:cap(n.Last.Words)]
	n.Follow = slices.Clone(n.Follow[:cap(n.Follow)])
	for p, s := range n.Follow {
		n.Follow[p].Words = s.Words[:cap(s.Words)]
	}
	return n
}

// pairs are automata of all sorts, two by two.
func pairs() [][2]api.Nfa {
	var l [][2]api.Nfa
	many := machines()
	for i, m := range many {
		l = append(l, [2]api.Nfa{m.nfa(), many[(i*7+3)%len(many)].nfa()})
	}
	for i, n := range wrong() {
		if i%5 == 0 {
			l = append(l, [2]api.Nfa{n, many[i%len(many)].nfa()})
		}
	}
	return append(l, [2]api.Nfa{blank(512).nfa(), blank(1).nfa()})
}

// R1

// calls fails unless the calls answer what they may of any two automata.
func calls(t *testing.T, x, y api.Nfa) {
	t.Helper()
	good := glushkov.Check(x) == api.OK && glushkov.Check(y) == api.OK
	for name, j := range both() {
		n, e := j.call(x, y)
		want := api.OK
		if !good {
			want = api.ErrNfa
		} else if len(x.Classes)+len(y.Classes) > 512 {
			want = api.ErrPositions
		}
		if e != want || e != api.OK && !isZero(n) || e == api.OK && glushkov.Check(n) != api.OK {
			t.Fatalf("%s: error %d, %s", name, e, show(n))
		}
	}
	if n, e := glushkov.Star(x); e != glushkov.Check(x) || e != api.OK && !isZero(n) {
		t.Fatalf("Star: error %d, %s", e, show(n))
	}
	for range glushkov.Edges(x) {
	}
	glushkov.Same(x, y)
	if !equal(glushkov.Clone(x), x) {
		t.Fatalf("Clone: %s", show(x))
	}
}

// damaged is n with one field that may be another.
func (c *chance) damaged(n api.Nfa) api.Nfa {
	n = copyOf(n)
	numbers := []int{math.MinInt, -1, 0, 1, 2, 63, 64, 65, 512, 513, 8192, 8193, math.MaxInt}
	at := -2 + c.below(len(n.Follow)+2)
	switch s := setAt(&n, at); c.below(7) {
	case 0:
		s.N = numbers[c.below(len(numbers))]
	case 1:
		s.Words = append(s.Words, c.next())
	case 2:
		s.Words = s.Words[:max(0, len(s.Words)-1)]
	case 3:
		if len(s.Words) > 0 {
			s.Words[len(s.Words)-1] = c.next()
		}
	case 4:
		n.Follow = append(n.Follow, *s)
	case 5:
		n.Classes = append(n.Classes, api.Class{1})
	case 6:
		n.Classes = nil
	}
	return n
}

func TestNoCallPanics(t *testing.T) {
	for _, x := range pairs() {
		calls(t, x[0], x[1])
		calls(t, x[1], x[0])
	}
	r := chance(51)
	refused := 0
	for range 4000 {
		x, y := r.damaged(r.machine(r.below(6)).nfa()), r.machine(r.below(70)%6).nfa()
		if r.below(4) == 0 {
			y = r.damaged(y)
		}
		calls(t, x, y)
		if glushkov.Check(x) != api.OK {
			refused++
		}
	}
	if refused < 1000 {
		t.Error(refused)
	}
	// Many sets and many classes, one without the other.
	for _, many := range []int{513, 1 << 12, 1 << 16} {
		calls(t, api.Nfa{Classes: make([]api.Class, many)}, api.Nfa{Follow: make([]api.Bits, many)})
		calls(t, api.Nfa{Classes: make([]api.Class, many), Follow: make([]api.Bits, many)}, api.Nfa{First: api.Bits{Words: make([]uint64, many)}})
	}
}

func TestNoTreePanics(t *testing.T) {
	of := func(x api.Tree) api.Errno {
		n, e := glushkov.Of(x)
		if e != api.OK && !isZero(n) || e == api.OK && (!normal.Is(x) || glushkov.Check(n) != api.OK) {
			t.Fatalf("%v: error %d, %s", x, e, show(n))
		}
		if e != api.OK && e != api.ErrArg && e != api.ErrPositions {
			t.Fatalf("%v: error %d", x, e)
		}
		return e
	}
	r := chance(52)
	many := map[api.Errno]int{}
	for range 20000 {
		var x api.Tree
		for range r.below(6) {
			x.Nodes = append(x.Nodes, r.node())
		}
		many[of(x)]++
	}
	for range 4000 {
		x := r.shape(1 + r.below(30)).tree()
		x.Nodes[r.below(len(x.Nodes))] = r.node()
		many[of(x)]++
	}
	for _, kind := range []int{0, api.NdEmpty, api.NdClass, api.NdCat, api.NdAlt, api.NdRep, api.NdHat, math.MinInt} {
		for _, long := range []int{1, 2048, 2049, 1 << 16} {
			many[of(api.Tree{Nodes: slices.Repeat([]api.Node{{Kind: kind}}, long)})]++
		}
	}
	if many[api.OK] < 200 || many[api.ErrArg] < 5000 {
		t.Error(many)
	}
}

// R3

func TestArgumentsAreTheirOwners(t *testing.T) {
	for _, p := range pairs() {
		x, y := guarded(p[0]), guarded(p[1])
		wasX, wasY := copyOf(whole(x)), copyOf(whole(y))
		l := answers(x, y)
		glushkov.Check(x)
		glushkov.Same(x, y)
		for range glushkov.Edges(x) {
		}
		if !equal(whole(x), wasX) || !equal(whole(y), wasY) {
			t.Fatalf("%s, %s: written to", show(p[0]), show(p[1]))
		}
		kept := copies(l)
		scribble(whole(x))
		scribble(x)
		scribble(whole(y))
		scribble(y)
		if !slices.EqualFunc(l, kept, equal) {
			t.Fatalf("%s, %s: an answer changes with them", show(p[0]), show(p[1]))
		}
	}
}

func TestTreesAreTheirOwners(t *testing.T) {
	for _, s := range []*shape{empty, a, star(cat(a, b)), alt(a, cat(b, star(ab))), row(512, api.NdCat, a, true), row(513, api.NdCat, a, true), cat(hat, a), rep(a, 2, 3)} {
		given := s.tree().Nodes
		memory := append(slices.Clone(given), api.Node{Kind: 77}, api.Node{Kind: 77})
		was := slices.Clone(memory)
		n, _ := glushkov.Of(api.Tree{Nodes: memory[:len(given)]})
		if !slices.Equal(memory, was) {
			t.Fatalf("%s was written to", s.brief())
		}
		kept := copyOf(n)
		clear(memory)
		if !equal(n, kept) {
			t.Fatalf("%s: the answer changes with it", s.brief())
		}
	}
}

// What is written into an answer is neither in an argument nor in another answer.
func TestAnswersAreApart(t *testing.T) {
	for _, p := range pairs() {
		x, y := guarded(p[0]), guarded(p[1])
		wasX, wasY := copyOf(whole(x)), copyOf(whole(y))
		l := append(answers(x, y), made()...)
		kept := copies(l)
		for i := range l {
			w := whole(l[i])
			scribble(l[i])
			scribble(w)
			if !slices.EqualFunc(l[i+1:], kept[i+1:], equal) {
				t.Fatalf("%s, %s: the answer %d shares memory with another one", show(p[0]), show(p[1]), i)
			}
		}
		if !equal(whole(x), wasX) || !equal(whole(y), wasY) {
			t.Fatalf("%s, %s: an answer shares memory with them", show(p[0]), show(p[1]))
		}
		if !slices.EqualFunc(append(answers(x, y), made()...), kept, equal) {
			t.Fatalf("%s, %s: other answers once those ahead are written to", show(p[0]), show(p[1]))
		}
	}
}

// No two sets of one answer share memory.
func TestSetsOfAnAnswerAreApart(t *testing.T) {
	l := made()
	for _, p := range pairs() {
		l = append(l, answers(p[0], p[1])...)
	}
	for _, s := range great() {
		n, _ := glushkov.Of(s.tree())
		l = append(l, n)
	}
	for k, n := range l {
		for at := -2; at < len(n.Follow); at++ {
			s := setAt(&n, at).Words
			for i := range s[:cap(s)] {
				s[:cap(s)][i] = uint64(at + 1000)
			}
		}
		for at := -2; at < len(n.Follow); at++ {
			for _, w := range setAt(&n, at).Words {
				if w != uint64(at+1000) {
					t.Fatalf("the answer %d: its set %d shares memory with the set %d", k, at, int(w)-1000)
				}
			}
		}
	}
}

// R4

func TestNilAndEmptyLists(t *testing.T) {
	blanks := []api.Nfa{{Null: true}, {Classes: []api.Class{}, Follow: []api.Bits{}, First: api.Bits{Words: []uint64{}}, Last: api.Bits{Words: []uint64{}}, Null: true}}
	for _, m := range machines() {
		n := m.nfa()
		for _, other := range blanks {
			got, e := glushkov.Cat(n, other)
			isNfa(t, "Cat", got, e, n)
			got, e = glushkov.Cat(other, n)
			isNfa(t, "Cat", got, e, n)
			got, e = glushkov.Alt(other, n)
			n.Null = true
			isNfa(t, "Alt", got, e, n)
			n.Null = m.null
		}
	}
	for _, n := range blanks {
		got, e := glushkov.Star(n)
		isNfa(t, "Star", got, e, glushkov.Empty())
		if glushkov.Check(n) != api.OK || !glushkov.Same(n, glushkov.Empty()) || !glushkov.Same(glushkov.Clone(n), n) || len(told(n)) != 0 {
			t.Errorf("%#v", n)
		}
	}
	for _, x := range []api.Tree{{}, {Nodes: []api.Node{}}} {
		ofRefuses(t, x, api.ErrArg)
	}
}

// R5: what no call made is an automaton without positions that takes nothing, as the chapter's words have it.
func TestZeroValues(t *testing.T) {
	zero := api.Nfa{}
	if e := glushkov.Check(zero); e != api.OK {
		t.Error(e)
	}
	for name, j := range both() {
		n, e := j.call(zero, zero)
		isNfa(t, name, n, e, zero)
	}
	n, e := glushkov.Star(zero)
	isNfa(t, "Star", n, e, glushkov.Empty())
	if !equal(glushkov.Clone(zero), zero) || !glushkov.Same(zero, zero) || len(told(zero)) != 0 || takes(zero, nil) {
		t.Error("a zero struct")
	}
	ofRefuses(t, api.Tree{}, api.ErrArg)
	ofRefuses(t, api.Tree{Nodes: make([]api.Node, 3)}, api.ErrArg)
}

// R6

func TestSameCallsAnswerTheSame(t *testing.T) {
	first := made()
	for range 3 {
		if !slices.EqualFunc(made(), first, equal) {
			t.Fatal("other answers")
		}
	}
	for _, p := range pairs() {
		l := answers(p[0], p[1])
		half := len(l) / 2
		if !slices.EqualFunc(l[:half], l[half:], equal) || !slices.EqualFunc(answers(p[0], p[1]), l, equal) {
			t.Fatalf("%s, %s: other answers", show(p[0]), show(p[1]))
		}
		if !slices.Equal(told(p[0]), told(p[0])) {
			t.Fatalf("%s: other edges", show(p[0]))
		}
	}
}
