package reverse_test

import (
	"fmt"
	"iter"
	"math"
	"slices"
	"strings"
	"testing"

	"riddle/api"
	"riddle/glushkov"
	"riddle/normal"
	"riddle/parse"
)

// What the tests hold the package against is made here without a call of the package.

func raw(l ...byte) api.Class {
	var c api.Class
	for _, b := range l {
		c[b/64] |= 1 << (b % 64)
	}
	return c
}

var full = api.Class{math.MaxUint64, math.MaxUint64, math.MaxUint64, math.MaxUint64}

func inClass(c api.Class, b byte) bool { return c[b/64]&(1<<(b%64)) != 0 }

// put is the set of these numbers, word by word.
func put(many int, l ...int) api.Bits {
	s := api.Bits{N: many, Words: make([]uint64, (many+63)/64)}
	for _, n := range l {
		s.Words[n/64] |= 1 << (n % 64)
	}
	return s
}

// all is the set of all numbers below many.
func all(many int) api.Bits {
	s := put(many)
	for n := range many {
		s.Words[n/64] |= 1 << (n % 64)
	}
	return s
}

func in(s api.Bits, n int) bool { return s.Words[n/64]&(1<<(n%64)) != 0 }

func numbers(s api.Bits) []int {
	var l []int
	for n := range s.N {
		if in(s, n) {
			l = append(l, n)
		}
	}
	return l
}

func equalSet(a, b api.Bits) bool { return a.N == b.N && slices.Equal(a.Words, b.Words) }

func equal(a, b api.Nfa) bool {
	return slices.Equal(a.Classes, b.Classes) && equalSet(a.First, b.First) && equalSet(a.Last, b.Last) && slices.EqualFunc(a.Follow, b.Follow, equalSet) && a.Null == b.Null
}

// isState fails unless s is the set want, word by word.
func isState(t *testing.T, what string, s, want api.Bits) {
	t.Helper()
	if !equalSet(s, want) {
		t.Fatalf("%s: %d %x, not %d %x", what, s.N, s.Words, want.N, want.Words)
	}
}

// show is an automaton for a report, its first positions if there are many.
func show(n api.Nfa) string {
	var s strings.Builder
	fmt.Fprintf(&s, "{%d positions, %d sets, null %t; first %d %x; last %d %x;", len(n.Classes), len(n.Follow), n.Null, n.First.N, n.First.Words, n.Last.N, n.Last.Words)
	for p := range min(8, len(n.Classes)) {
		fmt.Fprintf(&s, " %x", n.Classes[p])
	}
	for p := range min(8, len(n.Follow)) {
		fmt.Fprintf(&s, " %d: %d %x", p, n.Follow[p].N, n.Follow[p].Words)
	}
	return s.String() + "}"
}

// blank has so many positions that nothing comes to.
func blank(many int) api.Nfa {
	n := api.Nfa{Classes: make([]api.Class, many), First: put(many), Last: put(many)}
	for range many {
		n.Follow = append(n.Follow, put(many))
	}
	return n
}

// everything has so many positions that each byte comes to, first, last, behind each other; it takes each text.
func everything(many int) api.Nfa {
	n := api.Nfa{Classes: slices.Repeat([]api.Class{full}, many), First: all(many), Last: all(many), Null: true}
	for range many {
		n.Follow = append(n.Follow, all(many))
	}
	return n
}

// byHand is an automaton of single bytes and of pairs of positions that may come one behind the other.
func byHand(classes string, null bool, first, last []int, edges ...[2]int) api.Nfa {
	many := len(classes)
	n := blank(many)
	n.First, n.Last, n.Null = put(many, first...), put(many, last...), null
	for p := range many {
		n.Classes[p] = raw(classes[p])
	}
	for _, e := range edges {
		n.Follow[e[0]].Words[e[1]/64] |= 1 << (e[1] % 64)
	}
	return n
}

// read is the tree of a pattern, unrolled.
func read(t *testing.T, p string) api.Tree {
	t.Helper()
	x, _, e := parse.Parse([]byte(p), api.Flags{})
	if e != api.OK {
		t.Fatal(p, e)
	}
	x, e = normal.Unroll(x)
	if e != api.OK {
		t.Fatal(p, e)
	}
	return x
}

// of is the automaton of a pattern.
func of(t *testing.T, p string) api.Nfa {
	t.Helper()
	n, e := glushkov.Of(read(t, p))
	if e != api.OK {
		t.Fatal(p, e)
	}
	return n
}

// next takes the chapter's words as they stand, position by position.
func next(n api.Nfa, s api.Bits, begin bool, b byte) api.Bits {
	var l []int
	for q, c := range n.Classes {
		comes := begin && in(n.First, q)
		for p := range n.Classes {
			comes = comes || in(s, p) && in(n.Follow[p], q)
		}
		if comes && inClass(c, b) {
			l = append(l, q)
		}
	}
	return put(len(n.Classes), l...)
}

// meet is whether two sets of one N have a number in common.
func meet(a, b api.Bits) bool {
	return slices.ContainsFunc(numbers(a), func(n int) bool { return in(b, n) })
}

// takes goes by the words of chapter 10, from the last byte to the first: which positions may stand at a byte, if the bytes from there on are to be taken.
func takes(n api.Nfa, w []byte) bool {
	if len(w) == 0 {
		return n.Null
	}
	may := n.Last
	for i, b := range slices.Backward(w) {
		var l []int
		for p, c := range n.Classes {
			if inClass(c, b) && (i == len(w)-1 && in(n.Last, p) || i < len(w)-1 && meet(n.Follow[p], may)) {
				l = append(l, p)
			}
		}
		may = put(len(n.Classes), l...)
	}
	return meet(may, n.First)
}

// starts are the places of w, falling, from which on a text up to end is taken, tried one by one.
func starts(n api.Nfa, w []byte, end int) []int {
	var l []int
	for i := end; i >= 0; i-- {
		if takes(n, w[i:end]) {
			l = append(l, i)
		}
	}
	return l
}

// least is the least place from which on a text that is not empty is taken up to end, all of them tried one by one; -1, if there is none.
func least(n api.Nfa, w []byte, end int, v way) int {
	for i := range end {
		begins := true
		if v.hat {
			begins = i == 0 || v.multi && w[i-1] == '\n'
		}
		if begins && takes(n, w[i:end]) {
			return i
		}
	}
	return -1
}

type way struct{ hat, multi bool }

func fourWays() []way { return []way{{false, false}, {false, true}, {true, false}, {true, true}} }

// backwards is w turned round.
func backwards(w []byte) []byte {
	w = slices.Clone(w)
	slices.Reverse(w)
	return w
}

// follows is whether q follows p, of positions that n has.
func follows(n api.Nfa, p, q int) bool { return in(n.Follow[p], q) }

// reversed takes the chapter's words as they stand, pair by pair.
func reversed(n api.Nfa) api.Nfa {
	many := len(n.Classes)
	back := blank(many)
	back.Classes, back.First, back.Last, back.Null = n.Classes, n.Last, n.First, n.Null
	for p := range many {
		for q := range many {
			if follows(n, q, p) {
				back.Follow[p].Words[q/64] |= 1 << (q % 64)
			}
		}
	}
	return back
}

// turned takes the chapter's words as they stand, position by position.
func turned(n api.Nfa) api.Nfa {
	many := len(n.Classes)
	set := func(s api.Bits) api.Bits {
		var l []int
		for _, p := range numbers(s) {
			l = append(l, many-1-p)
		}
		return put(many, l...)
	}
	other := blank(many)
	other.First, other.Last, other.Null = set(n.First), set(n.Last), n.Null
	for p := range many {
		other.Classes[many-1-p] = n.Classes[p]
		other.Follow[many-1-p] = set(n.Follow[p])
	}
	return other
}

// isNfa fails unless n is want, field by field.
func isNfa(t *testing.T, what string, n, want api.Nfa) {
	t.Helper()
	if !equal(n, want) {
		t.Fatalf("%s: %s, not %s", what, show(n), show(want))
	}
}

func isTold(t *testing.T, what string, told iter.Seq[int], want []int) {
	t.Helper()
	if got := slices.Collect(told); !slices.Equal(got, want) {
		t.Fatalf("%s: %v, not %v", what, got, want)
	}
}

// eachText goes through all texts of these bytes, up to so many of them.
func eachText(letters string, most int, f func(w []byte)) {
	for many := range most + 1 {
		w := make([]byte, many)
		for number := range pow(len(letters), many) {
			for i := range w {
				w[i] = letters[number%len(letters)]
				number /= len(letters)
			}
			f(w)
		}
	}
}

func pow(n, times int) int {
	all := 1
	for range times {
		all *= n
	}
	return all
}

// chance makes numbers of no order, always the same ones.
type chance uint64

func (c *chance) next() uint64 {
	*c = *c*6364136223846793005 + 1442695040888963407
	x := uint64(*c)
	return x ^ x>>33
}

func (c *chance) below(n int) int { return int((c.next() >> 8) % uint64(n)) }

func (c *chance) is() bool { return c.below(2) == 1 }

// text is of up to so many bytes, most of them a.
func (c *chance) text(most int) []byte {
	w := make([]byte, c.below(most+1))
	for i := range w {
		w[i] = "aaaabbc\n"[c.below(8)]
	}
	return w
}

// state is of so many positions, of which few or many are in it.
func (c *chance) state(many int) api.Bits {
	few := 1 + c.below(6)
	s := put(many)
	for p := range many {
		if c.below(few) == 0 {
			s.Words[p/64] |= 1 << (p % 64)
		}
	}
	return s
}

// nfa is of so many positions, of which few or many come first, last and behind each other; no tree may have it.
func (c *chance) nfa(many int) api.Nfa {
	n := api.Nfa{First: c.state(many), Last: c.state(many), Null: c.is()}
	for range many {
		n.Classes = append(n.Classes, []api.Class{raw('a'), raw('b'), raw('a', 'b'), raw('a', '\n'), raw(0, 255), {}, full, raw('c', byte(c.below(256)))}[c.below(8)])
		n.Follow = append(n.Follow, c.state(many))
	}
	return n
}

// automata are of all sorts, few positions and many, those of no positions among them.
func automata() []api.Nfa {
	l := []api.Nfa{{}, {Null: true}, blank(1), blank(70), everything(1), everything(3), everything(65)}
	r := chance(7)
	for _, many := range []int{1, 1, 1, 2, 2, 2, 3, 3, 4, 5, 8, 31, 63, 64, 65, 100, 127, 128, 129, 192, 300} {
		l = append(l, r.nfa(many))
	}
	return l
}

// small are automata of few positions, for what goes over many texts.
func small() []api.Nfa {
	l := []api.Nfa{{}, {Null: true}, blank(2), everything(1), everything(2)}
	r := chance(8)
	for range 120 {
		l = append(l, r.nfa(1+r.below(6)))
	}
	return l
}

// wrong are automata that glushkov.Check refuses, each for another reason. But for what is wrong with them they take each text, so that it is seen if one of them is gone through.
func wrong() []api.Nfa {
	l := []api.Nfa{
		{Classes: []api.Class{full}, Null: true},
		{Follow: []api.Bits{{}}, Null: true},
		{First: put(1, 0), Null: true},
		{Last: put(1, 0), Null: true},
		{First: api.Bits{Words: []uint64{1}}, Null: true},
		{Last: api.Bits{N: -1}, Null: true},
		everything(513),
		everything(1024),
	}
	for _, many := range []int{1, 2, 3, 64, 65} {
		fewer, more, longer := everything(many), everything(many), everything(many)
		fewer.Follow = fewer.Follow[1:]
		more.Follow = append(more.Follow, all(many))
		longer.Classes = append(longer.Classes, full)
		l = append(l, fewer, more, longer)
		for _, s := range wrongStates(many) {
			for _, at := range []int{-2, -1, 0, many - 1} {
				n := everything(many)
				*setAt(&n, at) = s
				l = append(l, n)
			}
		}
	}
	for i := range l {
		n := l[i]
		n.Null = false
		l = append(l, n)
	}
	return l
}

// setAt is the place of First (-2), Last (-1) or that one of Follow.
func setAt(n *api.Nfa, at int) *api.Bits {
	switch at {
	case -2:
		return &n.First
	case -1:
		return &n.Last
	}
	return &n.Follow[at]
}

// wrongStates are those that no automaton of so many positions has: those that may not be, and those of another N. Most of them have all numbers that they can.
func wrongStates(many int) []api.Bits {
	short, long := all(many), all(many)
	short.Words, long.Words = short.Words[1:], append(long.Words, 1)
	zero := api.Bits{N: many, Words: append(all(many).Words, 0)}
	l := []api.Bits{short, long, zero, all(many - 1), all(many + 1), all(many + 64), {}, all(8192), {N: 8193, Words: slices.Repeat([]uint64{1}, 129)}, {N: many}, {N: -1, Words: all(many).Words}, {N: -many, Words: all(many).Words}, {N: math.MaxInt, Words: all(many).Words}, {N: math.MinInt}}
	if many%64 != 0 {
		over, far := all(many), all(many)
		over.Words[many/64] |= 1 << (many % 64)
		far.Words[many/64] |= 1 << 63
		l = append(l, over, far)
	}
	return l
}
