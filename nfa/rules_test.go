package nfa_test

import (
	"fmt"
	"math"
	"slices"
	"testing"

	"riddle/api"
	"riddle/glushkov"
	"riddle/nfa"
)

// given is what calls are handed.
type given struct {
	n    api.Nfa
	s    api.Bits
	w    []byte
	from int
}

// sorts are arguments of all sorts, such that may be and such that may not.
func sorts() []given {
	var l []given
	r := chance(41)
	for i, n := range automata() {
		many := len(n.Classes)
		l = append(l, given{n, r.state(many), []byte("ab\naab"), i % 7}, given{n, all(many), r.text(9), -1 + r.below(4)}, given{n, put(many), nil, 0})
		if many > 0 {
			states := wrongStates(many)
			l = append(l, given{n, states[i%len(states)], []byte("a\nb"), 2})
		}
	}
	for i, n := range wrong() {
		if i%3 == 0 {
			l = append(l, given{n, all(len(n.Classes)), []byte("ab\na"), i % 5})
		}
	}
	return l
}

// states are all states that the calls answer for these arguments.
func states(g given) []api.Bits {
	var l []api.Bits
	for range 2 {
		l = append(l, nfa.None(g.n), nfa.Run(g.n, g.s, g.w), nfa.Run(g.n, g.s, nil), nfa.Run(g.n, g.s, []byte("a")), nfa.Run(g.n, g.s, []byte("ab")))
		for _, begin := range []bool{false, true} {
			l = append(l, nfa.Next(g.n, g.s, begin, 'a'), nfa.Next(g.n, g.s, begin, 'b'), nfa.Next(g.n, g.s, begin, '\n'), nfa.Next(g.n, g.s, begin, 0), nfa.Next(g.n, g.s, begin, 255))
		}
	}
	return l
}

// said are all answers that are no sets.
func said(g given) string {
	text := fmt.Sprint(nfa.Accepts(g.n, g.s), nfa.Dead(g.n, g.s), slices.Collect(nfa.Ends(g.n, g.w, g.from)))
	for _, x := range fourWays() {
		text += fmt.Sprint(slices.Collect(nfa.Events(g.n, g.w, x.hat, x.multi)))
	}
	return text
}

func copiesOf(l []api.Bits) []api.Bits {
	l = slices.Clone(l)
	for i, s := range l {
		l[i].Words = slices.Clone(s.Words)
	}
	return l
}

// copyOf is g in memory of its own.
func copyOf(g given) given {
	n := g.n
	n.Classes, n.Follow = slices.Clone(n.Classes), copiesOf(n.Follow)
	n.First.Words, n.Last.Words = slices.Clone(n.First.Words), slices.Clone(n.Last.Words)
	return given{n, api.Bits{N: g.s.N, Words: slices.Clone(g.s.Words)}, slices.Clone(g.w), g.from}
}

// wide is a copy of l whose memory goes on behind it, filled with what is nowhere else.
func wide[T any](l []T, fill T) []T {
	w := append(slices.Clone(l), fill, fill, fill)
	return w[:len(l)]
}

// guarded is g in greater memory, so that what is written behind its lists is seen, too.
func guarded(g given) given {
	n := g.n
	n.Classes, n.Follow = wide(n.Classes, api.Class{77}), wide(n.Follow, api.Bits{N: 77})
	n.First.Words, n.Last.Words = wide(n.First.Words, 77), wide(n.Last.Words, 77)
	for p := range n.Follow {
		n.Follow[p].Words = wide(n.Follow[p].Words, 77)
	}
	return given{n, api.Bits{N: g.s.N, Words: wide(g.s.Words, 77)}, wide(g.w, 77), g.from}
}

// whole is g up to the ends of its memory.
func whole(g given) given {
	n := g.n
	n.Classes, n.Follow = n.Classes[:cap(n.Classes)], slices.Clone(n.Follow[:cap(n.Follow)])
	n.First.Words, n.Last.Words = n.First.Words[:cap(n.First.Words)], n.Last.Words[:cap(n.Last.Words)]
	for p, s := range n.Follow {
		n.Follow[p].Words = s.Words[:cap(s.Words)]
	}
	return given{n, api.Bits{N: g.s.N, Words: g.s.Words[:cap(g.s.Words)]}, g.w[:cap(g.w)], g.from}
}

func equalGiven(a, b given) bool {
	return equal(a.n, b.n) && equalSet(a.s, b.s) && slices.Equal(a.w, b.w) && a.from == b.from
}

// scribble writes to all memory of g.
func scribble(g given) {
	for _, s := range append([]api.Bits{g.s, g.n.First, g.n.Last}, g.n.Follow...) {
		scribbleSet(s)
	}
	for p := range g.n.Follow {
		g.n.Follow[p] = api.Bits{N: 77}
	}
	for p := range g.n.Classes {
		g.n.Classes[p] = api.Class{7, 7, 7, 7}
	}
	for i := range g.w {
		g.w[i] = '?'
	}
}

func scribbleSet(s api.Bits) {
	for i := range s.Words[:cap(s.Words)] {
		s.Words[:cap(s.Words)][i] = 0x5a5a
	}
}

// R1

// calls fails unless the calls answer what they may of any arguments.
func calls(t *testing.T, g given) {
	t.Helper()
	n := g.n
	if glushkov.Check(n) != api.OK {
		n = api.Nfa{}
	}
	many := len(n.Classes)
	for _, s := range states(g) {
		if s.N != many || len(s.Words) != (many+63)/64 {
			t.Fatalf("%s: %v", show(g.n), s)
		}
		if many%64 != 0 && s.Words[many/64]>>(many%64) != 0 {
			t.Fatalf("%s: %v", show(g.n), s)
		}
	}
	// What is taken as None is as None.
	if s := nfa.Run(g.n, g.s, nil); nfa.Accepts(g.n, g.s) != nfa.Accepts(n, s) || nfa.Dead(g.n, g.s) != nfa.Dead(n, s) {
		t.Fatalf("%s: %v", show(g.n), g.s)
	}
	last := -1
	for j := range nfa.Ends(g.n, g.w, g.from) {
		if j <= last || j < g.from || j > len(g.w) {
			t.Fatalf("%s: Ends tells %d", show(g.n), j)
		}
		last = j
	}
	for _, x := range fourWays() {
		last = 0
		for j := range nfa.Events(g.n, g.w, x.hat, x.multi) {
			if j <= last || j > len(g.w) {
				t.Fatalf("%s: Events tells %d", show(g.n), j)
			}
			last = j
		}
	}
}

// damaged is n with one field that may be another.
func (c *chance) damaged(n api.Nfa) api.Nfa {
	n = copyOf(given{n: n}).n
	s := setAt(&n, -2+c.below(len(n.Follow)+2))
	switch c.below(6) {
	case 0, 1:
		*s = c.damagedSet(*s)
	case 2:
		n.Follow = append(n.Follow, *s)
	case 3:
		n.Follow = n.Follow[:max(0, len(n.Follow)-1)]
	case 4:
		n.Classes = append(n.Classes, full)
	case 5:
		n.Classes = nil
	}
	return n
}

// damagedSet is s with another N, other words, or more or fewer of them.
func (c *chance) damagedSet(s api.Bits) api.Bits {
	s.Words = slices.Clone(s.Words)
	switch c.below(4) {
	case 0:
		s.N = []int{math.MinInt, -1, 0, 1, 2, 63, 64, 65, 512, 513, 8192, 8193, math.MaxInt}[c.below(13)]
	case 1:
		s.Words = append(s.Words, c.next())
	case 2:
		s.Words = s.Words[:max(0, len(s.Words)-1)]
	case 3:
		if len(s.Words) > 0 {
			s.Words[len(s.Words)-1] = c.next()
		}
	}
	return s
}

func TestNoCallPanics(t *testing.T) {
	for _, g := range sorts() {
		calls(t, g)
	}
	r := chance(42)
	refused := 0
	for range 6000 {
		many := r.below(70) % 7
		n, s := r.nfa(many), r.state(many)
		if r.is() {
			n = r.damaged(n)
		}
		if r.is() {
			s = r.damagedSet(s)
		}
		calls(t, given{n, s, r.text(6), -2 + r.below(10)})
		if glushkov.Check(n) != api.OK {
			refused++
		}
	}
	if refused < 1000 {
		t.Error(refused)
	}
	for _, many := range []int{513, 1 << 12, 1 << 16} {
		long := given{s: api.Bits{N: many, Words: make([]uint64, many)}, w: []byte("ab"), from: many}
		for _, n := range []api.Nfa{{Classes: make([]api.Class, many)}, {Follow: make([]api.Bits, many)}, {Classes: make([]api.Class, many), Follow: make([]api.Bits, many)}, {First: api.Bits{Words: make([]uint64, many)}}} {
			long.n = n
			calls(t, long)
		}
	}
}

// R3

func TestArgumentsAreTheirOwners(t *testing.T) {
	for _, g := range sorts() {
		x := guarded(g)
		was := copyOf(whole(x))
		l := states(x)
		said(x)
		if !equalGiven(whole(x), was) {
			t.Fatalf("%s: written to", show(g.n))
		}
		kept := copiesOf(l)
		scribble(whole(x))
		scribble(x)
		if !slices.EqualFunc(l, kept, equalSet) {
			t.Fatalf("%s: an answer changes with its arguments", show(g.n))
		}
	}
}

// What is written into an answer is neither in an argument nor in another answer.
func TestAnswersAreApart(t *testing.T) {
	for _, g := range sorts() {
		x := guarded(g)
		was := copyOf(whole(x))
		l := states(x)
		kept := copiesOf(l)
		for i := range l {
			scribbleSet(l[i])
			if !slices.EqualFunc(l[i+1:], kept[i+1:], equalSet) {
				t.Fatalf("%s: the answer %d shares memory with another one", show(g.n), i)
			}
		}
		if !equalGiven(whole(x), was) {
			t.Fatalf("%s: an answer shares memory with its arguments", show(g.n))
		}
		if !slices.EqualFunc(states(x), kept, equalSet) {
			t.Fatalf("%s: other answers once those ahead are written to", show(g.n))
		}
	}
}

func TestIteratorsTellWhatWasThere(t *testing.T) {
	for _, g := range sorts() {
		x := copyOf(g)
		wantEnds, wantEvents := slices.Collect(nfa.Ends(g.n, g.w, g.from)), slices.Collect(nfa.Events(g.n, g.w, true, true))
		ends, events := nfa.Ends(x.n, x.w, x.from), nfa.Events(x.n, x.w, true, true)
		scribble(x)
		for range 2 {
			isTold(t, "Ends", ends, wantEnds)
			isTold(t, "Events", events, wantEvents)
		}
	}
}

// Written to while it is gone through.
func TestIteratorsTellWhatWasThereWhileTheyRun(t *testing.T) {
	n, w := of(t, "(?:a|b|\n)*a"), []byte("aab\naab")
	for _, from := range []int{0, 2} {
		x := copyOf(given{n: n, w: w})
		var got []int
		for j := range nfa.Ends(x.n, x.w, from) {
			got = append(got, j)
			scribble(x)
		}
		if want := ends(n, w, from); !slices.Equal(got, want) {
			t.Errorf("%v, not %v", got, want)
		}
	}
	for _, v := range fourWays() {
		x := copyOf(given{n: n, w: w})
		var got []int
		for j := range nfa.Events(x.n, x.w, v.hat, v.multi) {
			got = append(got, j)
			scribble(x)
		}
		if want := events(n, w, v.hat, v.multi); !slices.Equal(got, want) {
			t.Errorf("%v, not %v", got, want)
		}
	}
}

// An automaton that was refused stays so, and one that was taken.
func TestIteratorsTellWhetherItWasRefused(t *testing.T) {
	n, w := everything(2), []byte("aa")
	ends, events := nfa.Ends(n, w, 0), nfa.Events(n, w, false, false)
	n.Follow[1].N = 3
	noEnds, noEvents := nfa.Ends(n, w, 0), nfa.Events(n, w, false, false)
	isTold(t, "Ends", ends, []int{0, 1, 2})
	isTold(t, "Events", events, []int{1, 2})
	n.Follow[1].N = 2
	isTold(t, "Ends", noEnds, nil)
	isTold(t, "Events", noEvents, nil)
}

// R4

func TestNilAndEmptyLists(t *testing.T) {
	none := api.Nfa{Classes: []api.Class{}, Follow: []api.Bits{}, First: api.Bits{Words: []uint64{}}, Last: api.Bits{Words: []uint64{}}}
	for _, null := range []bool{false, true} {
		x, y := api.Nfa{Null: null}, none
		y.Null = null
		for _, s := range []api.Bits{{}, {Words: []uint64{}}} {
			for _, w := range [][]byte{nil, {}, []byte("a")} {
				a, b := given{x, s, w, 0}, given{y, s, w, 0}
				if said(a) != said(b) || !slices.EqualFunc(states(a), states(b), equalSet) {
					t.Errorf("%v %v: %s, %s", s, w, said(a), said(b))
				}
			}
		}
	}
	for _, n := range automata() {
		s := all(len(n.Classes))
		if a, b := (given{n, s, nil, 0}), (given{n, s, []byte{}, 0}); said(a) != said(b) || !slices.EqualFunc(states(a), states(b), equalSet) {
			t.Errorf("%s: %s, %s", show(n), said(a), said(b))
		}
	}
}

// R5: what no call made is an automaton without positions that takes nothing, as the chapter's words have it, and its one state is empty.
func TestZeroValues(t *testing.T) {
	zero := api.Nfa{}
	for _, s := range states(given{n: zero, w: []byte("a")}) {
		isState(t, "a zero struct", s, api.Bits{})
	}
	if nfa.Accepts(zero, api.Bits{}) || !nfa.Dead(zero, api.Bits{}) {
		t.Error("a zero struct")
	}
	isTold(t, "Ends", nfa.Ends(zero, nil, 0), nil)
	isTold(t, "Events", nfa.Events(zero, []byte("a"), false, false), nil)
	// A state that no call made is None of any automaton.
	n := everything(3)
	if nfa.Accepts(n, api.Bits{}) || !nfa.Dead(n, api.Bits{}) {
		t.Error("a zero state")
	}
	isState(t, "a zero state", nfa.Next(n, api.Bits{}, true, 'a'), all(3))
	isState(t, "a zero state", nfa.Next(n, api.Bits{}, false, 'a'), put(3))
	isState(t, "a zero state", nfa.Run(n, api.Bits{}, nil), put(3))
}

// R6

func TestSameCallsAnswerTheSame(t *testing.T) {
	for _, g := range sorts() {
		l, text := states(g), said(g)
		half := len(l) / 2
		if !slices.EqualFunc(l[:half], l[half:], equalSet) || !slices.EqualFunc(states(g), l, equalSet) || said(g) != text {
			t.Fatalf("%s: other answers", show(g.n))
		}
	}
}
