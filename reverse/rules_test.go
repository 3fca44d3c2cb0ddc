package reverse_test

import (
	"fmt"
	"math"
	"slices"
	"testing"

	"riddle/api"
	"riddle/bits"
	"riddle/glushkov"
	"riddle/reverse"
)

// given is what calls are handed.
type given struct {
	n   api.Nfa
	s   api.Bits
	w   []byte
	end int
}

// sorts are arguments of all sorts, such that may be and such that may not.
func sorts() []given {
	var l []given
	r := chance(41)
	for i, n := range automata() {
		many := len(n.Classes)
		l = append(l, given{n, r.state(many), []byte("ab\naab"), i % 7}, given{n, all(many), r.text(9), -1 + r.below(4)}, given{n, put(many), nil, 0})
		if many > 0 {
			states := wrongStates(many)
			l = append(l, given{n, states[i%len(states)], []byte("a\nb"), 2})
		}
	}
	for i, n := range wrong() {
		if i%3 == 0 {
			l = append(l, given{n, all(len(n.Classes)), []byte("ab\na"), i % 5})
		}
	}
	return l
}

// answers are all automata and states that the calls answer for these arguments, a state as an automaton's First.
func answers(g given) []api.Nfa {
	var l []api.Nfa
	for range 2 {
		l = append(l, reverse.Reverse(g.n), reverse.Turn(g.n))
		for _, begin := range []bool{false, true} {
			for _, b := range []byte{'a', 'b', '\n', 0, 255} {
				l = append(l, api.Nfa{First: reverse.Back(g.n, g.s, begin, b)})
			}
		}
	}
	return l
}

// said are all answers that are numbers.
func said(g given) string {
	text := fmt.Sprint(slices.Collect(reverse.Starts(g.n, g.w, g.end)))
	for _, v := range fourWays() {
		at, is := reverse.Least(g.n, g.w, g.end, v.hat, v.multi)
		text += fmt.Sprint(" ", at, is)
	}
	return text
}

func copiesOf(l []api.Bits) []api.Bits {
	l = slices.Clone(l)
	for i, s := range l {
		l[i].Words = slices.Clone(s.Words)
	}
	return l
}

func copyOfNfa(n api.Nfa) api.Nfa {
	n.Classes, n.Follow = slices.Clone(n.Classes), copiesOf(n.Follow)
	n.First.Words, n.Last.Words = slices.Clone(n.First.Words), slices.Clone(n.Last.Words)
	return n
}

func copiesOfNfas(l []api.Nfa) []api.Nfa {
	l = slices.Clone(l)
	for i, n := range l {
		l[i] = copyOfNfa(n)
	}
	return l
}

// copyOf is g in memory of its own.
func copyOf(g given) given {
	return given{copyOfNfa(g.n), api.Bits{N: g.s.N, Words: slices.Clone(g.s.Words)}, slices.Clone(g.w), g.end}
}

// wide is a copy of l whose memory goes on behind it, filled with what is nowhere else.
func wide[T any](l []T, fill T) []T {
	w := append(slices.Clone(l), fill, fill, fill)
	return w[:len(l)]
}

// guarded is g in greater memory, so that what is written behind its lists is seen, too.
func guarded(g given) given {
	n := g.n
	n.Classes, n.Follow = wide(n.Classes, api.Class{77}), wide(n.Follow, api.Bits{N: 77})
	n.First.Words, n.Last.Words = wide(n.First.Words, 77), wide(n.Last.Words, 77)
	for p := range n.Follow {
		n.Follow[p].Words = wide(n.Follow[p].Words, 77)
	}
	return given{n, api.Bits{N: g.s.N, Words: wide(g.s.Words, 77)}, wide(g.w, 77), g.end}
}

// whole is g up to the ends of its memory.
func whole(g given) given {
	n := g.n
	n.Classes, n.Follow = n.Classes[:cap(n.Classes)], slices.Clone(n.Follow[:cap(n.Follow)])
	n.First.Words, n.Last.Words = n.First.Words[:cap(n.First.Words)], n.Last.Words[:cap(n.Last.Words)]
	for p, s := range n.Follow {
		n.Follow[p].Words = s.Words[:cap(s.Words)]
	}
	return given{n, api.Bits{N: g.s.N, Words: g.s.Words[:cap(g.s.Words)]}, g.w[:cap(g.w)], g.end}
}

func equalGiven(a, b given) bool {
	return equal(a.n, b.n) && equalSet(a.s, b.s) && slices.Equal(a.w, b.w) && a.end == b.end
}

// scribble writes to all memory of g.
func scribble(g given) {
	scribbleSet(g.s)
	scribbleNfa(g.n)
	for i := range g.w {
		g.w[i] = '?'
	}
}

// scribbleNfa writes to all memory of n, up to the ends of its lists' memory.
func scribbleNfa(n api.Nfa) {
	for _, s := range append([]api.Bits{n.First, n.Last}, n.Follow...) {
		scribbleSet(s)
	}
	follow, classes := n.Follow[:cap(n.Follow)], n.Classes[:cap(n.Classes)]
	for p := range follow {
		follow[p] = api.Bits{N: 77}
	}
	for p := range classes {
		classes[p] = api.Class{7, 7, 7, 7}
	}
}

func scribbleSet(s api.Bits) {
	for i := range s.Words[:cap(s.Words)] {
		s.Words[:cap(s.Words)][i] = 0x5a5a
	}
}

// R1

// calls fails unless the calls answer what they may of any arguments.
func calls(t *testing.T, g given) {
	t.Helper()
	n := g.n
	if glushkov.Check(n) != api.OK {
		n = api.Nfa{}
	}
	many := len(n.Classes)
	for _, made := range []api.Nfa{reverse.Reverse(g.n), reverse.Turn(g.n)} {
		if glushkov.Check(made) != api.OK || len(made.Classes) != many || made.Null != n.Null {
			t.Fatalf("%s: %s", show(g.n), show(made))
		}
	}
	for _, begin := range []bool{false, true} {
		if s := reverse.Back(g.n, g.s, begin, 'a'); s.N != many || bits.Check(s) != api.OK {
			t.Fatalf("%s: %v", show(g.n), s)
		}
	}
	last, lowest := len(g.w)+1, -1
	for i := range reverse.Starts(g.n, g.w, g.end) {
		if i >= last || i < 0 || i > g.end {
			t.Fatalf("%s: Starts tells %d", show(g.n), i)
		}
		if last = i; i < g.end {
			lowest = i
		}
	}
	for _, v := range fourWays() {
		at, is := reverse.Least(g.n, g.w, g.end, v.hat, v.multi)
		if !is && at != 0 || is && (at < 0 || at >= g.end || at < lowest || lowest < 0) || !v.hat && is != (lowest >= 0) {
			t.Fatalf("%s: Least is %d, %t", show(g.n), at, is)
		}
	}
}

// damaged is n with one field that may be another.
func (c *chance) damaged(n api.Nfa) api.Nfa {
	n = copyOf(given{n: n}).n
	s := setAt(&n, -2+c.below(len(n.Follow)+2))
	switch c.below(6) {
	case 0, 1:
		*s = c.damagedSet(*s)
	case 2:
		n.Follow = append(n.Follow, *s)
	case 3:
		n.Follow = n.Follow[:max(0, len(n.Follow)-1)]
	case 4:
		n.Classes = append(n.Classes, full)
	case 5:
		n.Classes = nil
	}
	return n
}

// damagedSet is s with another N, other words, or more or fewer of them.
func (c *chance) damagedSet(s api.Bits) api.Bits {
	s.Words = slices.Clone(s.Words)
	switch c.below(4) {
	case 0:
		s.N = []int{math.MinInt, -1, 0, 1, 2, 63, 64, 65, 512, 513, 8192, 8193, math.MaxInt}[c.below(13)]
	case 1:
		s.Words = append(s.Words, c.next())
	case 2:
		s.Words = s.Words[:max(0, len(s.Words)-1)]
	case 3:
		if len(s.Words) > 0 {
			s.Words[len(s.Words)-1] = c.next()
		}
	}
	return s
}

func TestNoCallPanics(t *testing.T) {
	for _, g := range sorts() {
		calls(t, g)
	}
	r := chance(42)
	refused := 0
	for range 6000 {
		many := r.below(70) % 7
		n, s := r.nfa(many), r.state(many)
		if r.is() {
			n = r.damaged(n)
		}
		if r.is() {
			s = r.damagedSet(s)
		}
		calls(t, given{n, s, r.text(6), -2 + r.below(10)})
		if glushkov.Check(n) != api.OK {
			refused++
		}
	}
	if refused < 1000 {
		t.Error(refused)
	}
	for _, many := range []int{513, 1 << 12, 1 << 16} {
		long := given{s: api.Bits{N: many, Words: make([]uint64, many)}, w: []byte("ab"), end: many}
		for _, n := range []api.Nfa{{Classes: make([]api.Class, many)}, {Follow: make([]api.Bits, many)}, {Classes: make([]api.Class, many), Follow: make([]api.Bits, many)}, {First: api.Bits{Words: make([]uint64, many)}}} {
			long.n = n
			calls(t, long)
		}
	}
}

// R3

func TestArgumentsAreTheirOwners(t *testing.T) {
	for _, g := range sorts() {
		x := guarded(g)
		was := copyOf(whole(x))
		l := answers(x)
		said(x)
		if !equalGiven(whole(x), was) {
			t.Fatalf("%s: written to", show(g.n))
		}
		kept := copiesOfNfas(l)
		scribble(whole(x))
		scribble(x)
		if !slices.EqualFunc(l, kept, equal) {
			t.Fatalf("%s: an answer changes with its arguments", show(g.n))
		}
	}
}

// What is written into an answer is neither in an argument nor in another answer.
func TestAnswersAreApart(t *testing.T) {
	for _, g := range sorts() {
		x := guarded(g)
		was := copyOf(whole(x))
		l := answers(x)
		kept := copiesOfNfas(l)
		for i := range l {
			scribbleNfa(l[i])
			if !slices.EqualFunc(l[i+1:], kept[i+1:], equal) {
				t.Fatalf("%s: the answer %d shares memory with another one", show(g.n), i)
			}
		}
		if !equalGiven(whole(x), was) {
			t.Fatalf("%s: an answer shares memory with its arguments", show(g.n))
		}
		if !slices.EqualFunc(answers(x), kept, equal) {
			t.Fatalf("%s: other answers once those ahead are written to", show(g.n))
		}
	}
}

// No two sets of one answer are in the same memory.
func TestSetsOfOneAnswerAreApart(t *testing.T) {
	for _, n := range automata() {
		for _, made := range []api.Nfa{reverse.Reverse(n), reverse.Turn(n)} {
			l := append([]api.Bits{made.First, made.Last}, made.Follow...)
			kept := copiesOf(l)
			for i := range l {
				scribbleSet(l[i])
				if !slices.EqualFunc(l[i+1:], kept[i+1:], equalSet) {
					t.Fatalf("%s: the set %d shares memory with another one", show(n), i)
				}
			}
		}
	}
}

func TestStartsTellWhatWasThere(t *testing.T) {
	for _, g := range sorts() {
		x := copyOf(g)
		want := slices.Collect(reverse.Starts(g.n, g.w, g.end))
		told := reverse.Starts(x.n, x.w, x.end)
		scribble(x)
		for range 2 {
			isTold(t, "Starts", told, want)
		}
	}
}

// Written to while it is gone through.
func TestStartsTellWhatWasThereWhileTheyRun(t *testing.T) {
	n, w := of(t, "(?:a|b|\n)*a"), []byte("aab\naabaa")
	for _, end := range []int{6, 9} {
		x := copyOf(given{n: n, w: w})
		var got []int
		for i := range reverse.Starts(x.n, x.w, end) {
			got = append(got, i)
			scribble(x)
		}
		if want := starts(n, w, end); !slices.Equal(got, want) || len(got) < 3 {
			t.Errorf("%v, not %v", got, want)
		}
	}
}

// An automaton that was refused stays so, and one that was taken.
func TestStartsTellWhetherItWasRefused(t *testing.T) {
	n, w := everything(2), []byte("aa")
	told := reverse.Starts(n, w, 2)
	n.Follow[1].N = 3
	none := reverse.Starts(n, w, 2)
	isTold(t, "Starts", told, []int{2, 1, 0})
	n.Follow[1].N = 2
	isTold(t, "Starts", none, nil)
}

// R4

func TestNilAndEmptyLists(t *testing.T) {
	none := api.Nfa{Classes: []api.Class{}, Follow: []api.Bits{}, First: api.Bits{Words: []uint64{}}, Last: api.Bits{Words: []uint64{}}}
	for _, null := range []bool{false, true} {
		x, y := api.Nfa{Null: null}, none
		y.Null = null
		for _, s := range []api.Bits{{}, {Words: []uint64{}}} {
			for _, w := range [][]byte{nil, {}, []byte("a")} {
				a, b := given{x, s, w, 0}, given{y, s, w, 0}
				if said(a) != said(b) || !slices.EqualFunc(answers(a), answers(b), equal) {
					t.Errorf("%v %v: %s, %s", s, w, said(a), said(b))
				}
			}
		}
	}
	for _, n := range automata() {
		if a, b := (given{n, n.First, nil, 0}), (given{n, n.First, []byte{}, 0}); said(a) != said(b) {
			t.Errorf("%s: %s, %s", show(n), said(a), said(b))
		}
	}
}

// R5: what no call made is an automaton without positions that takes nothing, and all calls of it answer zero values.
func TestZeroValues(t *testing.T) {
	zero := api.Nfa{}
	isNfa(t, "Reverse", reverse.Reverse(zero), zero)
	isNfa(t, "Turn", reverse.Turn(zero), zero)
	for _, v := range fourWays() {
		isState(t, "Back", reverse.Back(zero, api.Bits{}, v.hat, 'a'), api.Bits{})
		isLeast(t, "Least", zero, nil, 0, v, -1)
		isLeast(t, "Least", zero, []byte("a"), 1, v, -1)
	}
	isTold(t, "Starts", reverse.Starts(zero, nil, 0), nil)
	isTold(t, "Starts", reverse.Starts(zero, []byte("a"), 1), nil)
	// A state that no call made is the empty one of any automaton.
	isState(t, "a zero state", reverse.Back(everything(3), api.Bits{}, true, 'a'), all(3))
	isState(t, "a zero state", reverse.Back(everything(3), api.Bits{}, false, 'a'), put(3))
}

// R6

func TestSameCallsAnswerTheSame(t *testing.T) {
	for _, g := range sorts() {
		l, text := answers(g), said(g)
		half := len(l) / 2
		if !slices.EqualFunc(l[:half], l[half:], equal) || !slices.EqualFunc(answers(g), l, equal) || said(g) != text {
			t.Fatalf("%s: other answers", show(g.n))
		}
	}
}
