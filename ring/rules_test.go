package ring_test

import (
	"fmt"
	"math"
	"slices"
	"testing"

	"riddle/api"
	"riddle/ring"
)

// given is what calls are handed.
type given struct {
	r        api.Ring
	s        api.Bits
	triggers []int
	w        []byte
}

// sorts are arguments of all sorts, such that may be and such that may not.
func sorts() []given {
	var l []given
	c := chance(41)
	for i, r := range append(rings(), wrong()...) {
		many := taken(r).Most + 1
		odd := wrongStates(many)
		for _, s := range []api.Bits{c.state(many), all(many), put(many), odd[i%len(odd)]} {
			w := c.text(12, 6)
			l = append(l, given{r, s, c.triggers(5, len(w)), w})
		}
		l = append(l, given{r, put(many, 0), nil, nil}, given{r, put(many, many-1), []int{3, 0, math.MinInt, math.MaxInt}, []byte("aaaa")})
	}
	return l
}

// states are all states that the calls answer for these arguments.
func states(g given) []api.Bits {
	var l []api.Bits
	for range 2 {
		l = append(l, ring.None(g.r), ring.Trigger(g.r, g.s), ring.Run(g.r, g.s, g.w...), ring.Run(g.r, g.s), ring.Run(g.r, g.s, 'a', 'a'))
		for _, b := range []byte{'a', 'b', 0, 255} {
			l = append(l, ring.Next(g.r, g.s, b))
		}
	}
	return l
}

// said are all answers that are no sets.
func said(g given) string {
	age, is := ring.Oldest(g.r, g.s)
	return fmt.Sprint(ring.Check(g.r), ring.Accepts(g.r, g.s), age, is, slices.Collect(ring.Ends(g.r, g.triggers, g.w)))
}

func copiesOf(l []api.Bits) []api.Bits {
	l = slices.Clone(l)
	for i, s := range l {
		l[i].Words = slices.Clone(s.Words)
	}
	return l
}

// copyOf is g in memory of its own.
func copyOf(g given) given {
	return given{g.r, api.Bits{N: g.s.N, Words: slices.Clone(g.s.Words)}, slices.Clone(g.triggers), slices.Clone(g.w)}
}

// wide is a copy of l whose memory goes on behind it, filled with what is nowhere else.
func wide[T any](l []T, fill T) []T {
	w := append(slices.Clone(l), fill, fill, fill)
	return w[:len(l)]
}

// guarded is g in greater memory, so that what is written behind its lists is seen, too.
func guarded(g given) given {
	return given{g.r, api.Bits{N: g.s.N, Words: wide(g.s.Words, 77)}, wide(g.triggers, 77), wide(g.w, 77)}
}

// whole is g up to the ends of its memory.
func whole(g given) given {
	return given{g.r, api.Bits{N: g.s.N, Words: g.s.Words[:cap(g.s.Words)]}, g.triggers[:cap(g.triggers)], g.w[:cap(g.w)]}
}

func equalGiven(a, b given) bool {
	return a.r == b.r && equalSet(a.s, b.s) && slices.Equal(a.triggers, b.triggers) && slices.Equal(a.w, b.w)
}

// scribble writes to all memory of g.
func scribble(g given) {
	scribbleSet(g.s)
	for i := range g.triggers {
		g.triggers[i] = 1
	}
	for i := range g.w {
		g.w[i] = '?'
	}
}

func scribbleSet(s api.Bits) {
	words := s.Words[:cap(s.Words)]
	for i := range words {
		words[i] = 0x5a5a
	}
}

// R1

// calls fails unless the calls answer what the chapter's words do of any arguments.
func calls(t *testing.T, g given) {
	t.Helper()
	many := taken(g.r).Most + 1
	ages := agesOf(g.r, g.s)
	what := fmt.Sprintf("%s, N %d, %x", show(g.r), g.s.N, g.s.Words)
	isState(t, what, ring.None(g.r), put(many))
	isState(t, what, ring.Trigger(g.r, g.s), put(many, append(slices.Clone(ages), 0)...))
	for _, b := range []byte{'a', 'b', 0, 255} {
		isState(t, what, ring.Next(g.r, g.s, b), put(many, next(g.r, ages, b)...))
	}
	isState(t, what, ring.Run(g.r, g.s, g.w...), put(many, run(g.r, ages, g.w)...))
	if ring.Accepts(g.r, g.s) != accepts(g.r, ages) {
		t.Fatalf("%s: accepts", what)
	}
	age, is := ring.Oldest(g.r, g.s)
	if is != (len(ages) > 0) || age != slices.Max(append([]int{0}, ages...)) {
		t.Fatalf("%s: %d %t", what, age, is)
	}
	isTold(t, what, ring.Ends(g.r, g.triggers, g.w), ends(g.r, g.triggers, g.w))
}

// damagedSet is s with another N, other words, or more or fewer of them.
func (c *chance) damagedSet(s api.Bits) api.Bits {
	s.Words = slices.Clone(s.Words)
	switch c.below(4) {
	case 0:
		s.N = []int{math.MinInt, -1, 0, 1, 2, 63, 64, 65, 1000, 1001, 1002, 8192, 8193, math.MaxInt}[c.below(14)]
	case 1:
		s.Words = append(s.Words, c.next())
	case 2:
		s.Words = s.Words[:max(0, len(s.Words)-1)]
	case 3:
		if len(s.Words) > 0 {
			s.Words[len(s.Words)-1] = c.next()
		}
	}
	return s
}

// damaged is r with another bound.
func (c *chance) damaged(r api.Ring) api.Ring {
	n := []int{math.MinInt, math.MinInt + 1, -1000, -1, 0, 1, 2, 64, 999, 1000, 1001, 8191, 8192, math.MaxInt - 1, math.MaxInt}[c.below(15)]
	if c.is() {
		r.Least = n
	} else {
		r.Most = n
	}
	return r
}

func TestNoCallPanics(t *testing.T) {
	for _, g := range sorts() {
		calls(t, g)
	}
	c := chance(42)
	refused := 0
	for range 20000 {
		r := c.ring(70)
		s := c.state(r.Most + 1)
		if c.is() {
			r = c.damaged(r)
		}
		if c.is() {
			s = c.damagedSet(s)
		}
		w := c.text(6, 5)
		calls(t, given{r, s, c.triggers(4, len(w)), w})
		if ring.Check(r) != api.OK {
			refused++
		}
	}
	if refused < 3000 {
		t.Error(refused)
	}
}

// R3

func TestArgumentsAreTheirOwners(t *testing.T) {
	for _, g := range sorts() {
		x := guarded(g)
		was := copyOf(whole(x))
		l := states(x)
		said(x)
		if !equalGiven(whole(x), was) {
			t.Fatalf("%s: written to", show(g.r))
		}
		kept := copiesOf(l)
		scribble(whole(x))
		if !slices.EqualFunc(l, kept, equalSet) {
			t.Fatalf("%s: an answer changes with its arguments", show(g.r))
		}
	}
}

// What is written into an answer is neither in an argument nor in another answer.
func TestAnswersAreApart(t *testing.T) {
	for _, g := range sorts() {
		x := guarded(g)
		was := copyOf(whole(x))
		l := states(x)
		kept := copiesOf(l)
		for i := range l {
			scribbleSet(l[i])
			if !slices.EqualFunc(l[i+1:], kept[i+1:], equalSet) {
				t.Fatalf("%s: the answer %d shares memory with another one", show(g.r), i)
			}
		}
		if !equalGiven(whole(x), was) {
			t.Fatalf("%s: an answer shares memory with its arguments", show(g.r))
		}
		if !slices.EqualFunc(states(x), kept, equalSet) {
			t.Fatalf("%s: other answers once those ahead are written to", show(g.r))
		}
	}
}

func TestEndsTellsWhatWasThere(t *testing.T) {
	for _, g := range sorts() {
		x := copyOf(g)
		want := ends(g.r, g.triggers, g.w)
		told := ring.Ends(x.r, x.triggers, x.w)
		scribble(x)
		for range 2 {
			isTold(t, show(g.r), told, want)
		}
	}
}

// Written to while it is gone through.
func TestEndsTellsWhatWasThereWhileItRuns(t *testing.T) {
	for _, r := range []api.Ring{of("a", 0, 2), of("a", 2, 3), of("ab", 1, 5)} {
		g := given{r: r, triggers: []int{3, 0, 4}, w: []byte("aabaaaaa")}
		x := copyOf(g)
		var got []int
		for j := range ring.Ends(x.r, x.triggers, x.w) {
			got = append(got, j)
			scribble(x)
		}
		if want := ends(g.r, g.triggers, g.w); !slices.Equal(got, want) || len(want) < 3 {
			t.Errorf("%s: %v, not %v", show(r), got, want)
		}
	}
}

// R4

func TestNilAndEmptyLists(t *testing.T) {
	for _, r := range append(rings(), wrong()...) {
		for _, s := range []api.Bits{{}, all(taken(r).Most + 1)} {
			a := given{r, s, nil, nil}
			b := given{r, s, []int{}, []byte{}}
			if s.N == 0 {
				b.s.Words = []uint64{}
			}
			if said(a) != said(b) || !slices.EqualFunc(states(a), states(b), equalSet) {
				t.Errorf("%s: %s, %s", show(r), said(a), said(b))
			}
		}
	}
}

// R5: what no call made is a ring of no class from 0 to 1 times, as the chapter's words have it, and a state without ages.
func TestZeroValues(t *testing.T) {
	var zero api.Ring
	if e := ring.Check(zero); e != api.ErrRing {
		t.Error(e)
	}
	isState(t, "None of a zero ring", ring.None(zero), put(2))
	isNoState(t, zero, api.Bits{})
	isTold(t, "a zero ring", ring.Ends(zero, []int{1}, []byte("aa")), []int{1})
	for _, r := range rings() {
		isNoState(t, r, api.Bits{})
	}
}

// R6

func TestSameCallsAnswerTheSame(t *testing.T) {
	for _, g := range sorts() {
		l, text := states(g), said(g)
		half := len(l) / 2
		if !slices.EqualFunc(l[:half], l[half:], equalSet) || !slices.EqualFunc(states(g), l, equalSet) || said(g) != text {
			t.Fatalf("%s: other answers", show(g.r))
		}
	}
}
