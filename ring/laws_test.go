package ring_test

import (
	"fmt"
	"regexp"
	"slices"
	"testing"

	"riddle/api"
	"riddle/glushkov"
	"riddle/meaning"
	"riddle/nfa"
	"riddle/normal"
	"riddle/ring"
	"riddle/tree"
)

// P13.3

func TestItIsTheRepeat(t *testing.T) {
	told := 0
	manyEnds(func(r api.Ring, triggers []int, w []byte) {
		want := repeats(r, triggers, w)
		isTold(t, fmt.Sprintf("%s %v %q", show(r), triggers, w), ring.Ends(r, triggers, w), want)
		told += len(want)
	})
	if told < 20000 {
		t.Error(told)
	}
	c := chance(31)
	for range 12 {
		r := c.ring(1000)
		r.Class = raw('a')
		w := c.text(4000, 900)
		triggers := c.triggers(5, len(w))
		isTold(t, fmt.Sprintf("%s %v", show(r), triggers), ring.Ends(r, triggers, w), repeats(r, triggers, w))
	}
}

// treeOf is the repeat of the ring's class.
func treeOf(r api.Ring) api.Tree {
	return tree.Repeat(tree.Leaf(api.Node{Kind: api.NdClass, Class: r.Class}), r.Least, r.Most, false)
}

// It is what the tree of the repeat means.
func TestItIsTheTreesRepeat(t *testing.T) {
	c := chance(32)
	told := 0
	for range 1500 {
		r, w := c.ring(9), c.text(14, 8)
		triggers := c.triggers(4, len(w))
		spans := meaning.Spans(treeOf(r), false, w)
		var want []int
		for j := range len(w) + 1 {
			if slices.ContainsFunc(triggers, func(i int) bool { return i >= 0 && i <= j && spans[i][j] }) {
				want = append(want, j)
			}
		}
		isTold(t, fmt.Sprintf("%s %v %q", show(r), triggers, w), ring.Ends(r, triggers, w), want)
		told += len(want)
	}
	if told < 800 {
		t.Error(told)
	}
}

// It is what the automaton of the repeat takes, though that has a position for each time.
func TestItIsTheAutomatonsRepeat(t *testing.T) {
	c := chance(33)
	told := 0
	for range 300 {
		r, w := c.ring(150), c.text(300, 200)
		triggers := c.triggers(4, len(w))
		flat, e := normal.Unroll(treeOf(r))
		if e != api.OK {
			t.Fatal(show(r), e)
		}
		n, e := glushkov.Of(flat)
		if e != api.OK {
			t.Fatal(show(r), e)
		}
		var want []int
		for _, i := range triggers {
			want = slices.AppendSeq(want, nfa.Ends(n, w, i))
		}
		slices.Sort(want)
		want = slices.Compact(want)
		isTold(t, fmt.Sprintf("%s %v %q", show(r), triggers, w), ring.Ends(r, triggers, w), want)
		told += len(want)
	}
	if told < 1000 {
		t.Error(told)
	}
}

// One trigger at a time is the library's repeat from there on.
func TestItIsTheLibrarysRepeat(t *testing.T) {
	c := chance(34)
	for range 40 {
		r := of("ac", 0, 1+c.below(30))
		r.Least = c.below(r.Most + 1)
		re := regexp.MustCompile(fmt.Sprintf("^[ac]{%d,%d}$", r.Least, r.Most))
		w := make([]byte, 50)
		for i := range w {
			w[i] = "aaaaaaaaaaaaacccccccccccccb"[c.below(27)]
		}
		for i := range len(w) + 1 {
			var want []int
			for j := i; j <= len(w); j++ {
				if re.Match(w[i:j]) {
					want = append(want, j)
				}
			}
			isTold(t, fmt.Sprintf("%s %d %q", show(r), i, w), ring.Ends(r, []int{i}, w), want)
		}
	}
}

// What is told of triggers together is what is told of each of them.
func TestTriggersTogether(t *testing.T) {
	manyEnds(func(r api.Ring, triggers []int, w []byte) {
		var want []int
		for _, i := range triggers {
			want = slices.AppendSeq(want, ring.Ends(r, []int{i}, w))
		}
		slices.Sort(want)
		isTold(t, fmt.Sprintf("%s %v %q", show(r), triggers, w), ring.Ends(r, triggers, w), slices.Compact(want))
	})
}

// P13.4

func TestNoMoreThanThat(t *testing.T) {
	for _, r := range append(rings(), wrong()...) {
		most := taken(r).Most
		s := ring.None(r)
		for step := range 2*most + 3 {
			s = ring.Trigger(r, s)
			// All ages that there can be, and none above Most.
			want := all(min(step, most) + 1)
			if !inClass(taken(r).Class, 'a') {
				want = all(1)
			}
			isState(t, fmt.Sprint(show(r), step), s, put(most+1, numbers(want)...))
			s = ring.Next(r, s, 'a')
			if len(numbers(s)) > most || s.N != most+1 {
				t.Fatalf("%s: %v", show(r), numbers(s))
			}
		}
	}
}

// What the calls answer is a state again, of Most + 1 ages or fewer, whatever they were given.
func TestEachAnswerIsAState(t *testing.T) {
	held := func(r api.Ring, s api.Bits) {
		t.Helper()
		most := taken(r).Most
		if s.N != most+1 || len(s.Words) != most/64+1 || (most+1)%64 != 0 && s.Words[most/64]>>((most+1)%64) != 0 {
			t.Fatalf("%s: %d %x", show(r), s.N, s.Words)
		}
	}
	for _, r := range append(rings(), wrong()...) {
		many := taken(r).Most + 1
		for _, s := range append(statesOf(many), wrongStates(many)...) {
			held(r, ring.None(r))
			held(r, ring.Trigger(r, s))
			held(r, ring.Next(r, s, 'a'))
			held(r, ring.Next(r, s, 'b'))
			held(r, ring.Run(r, s, []byte("aaa")...))
		}
	}
}

// P13.5

func TestStepByStep(t *testing.T) {
	c := chance(35)
	left := 0
	for i := range 3000 {
		most := []int{3, 70, 130, 1000}[i%4]
		r := c.ring(most)
		s := c.state(r.Most + 1)
		v, w := c.text(r.Most/2+2, 3*most), c.text(r.Most/2+2, 3*most)
		both := ring.Run(r, s, slices.Concat(v, w)...)
		isState(t, fmt.Sprintf("%s %v %q %q", show(r), numbers(s), v, w), ring.Run(r, ring.Run(r, s, v...), w...), both)
		left += len(numbers(both))
	}
	if left < 3000 {
		t.Error(left)
	}
}

func TestStepByStepAtEachCut(t *testing.T) {
	r := of("a", 2, 66)
	for _, w := range []string{"", "a", "aaaaa", "aabaa", "baaaa", "aaaab", "bbbbb"} {
		for _, s := range statesOf(67) {
			both := ring.Run(r, s, []byte(w)...)
			for cut := range len(w) + 1 {
				isState(t, fmt.Sprint(w, cut), ring.Run(r, ring.Run(r, s, []byte(w[:cut])...), []byte(w[cut:])...), both)
			}
			one := s
			for i := range len(w) {
				one = ring.Next(r, one, w[i])
			}
			isState(t, w, one, both)
		}
	}
}
