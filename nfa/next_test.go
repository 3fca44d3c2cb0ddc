package nfa_test

import (
	"fmt"
	"slices"
	"testing"

	"riddle/api"
	"riddle/glushkov"
	"riddle/nfa"
)

// P11.1

func TestSamples(t *testing.T) {
	for _, n := range append(automata(), small()...) {
		if e := glushkov.Check(n); e != api.OK {
			t.Errorf("%s: %d", show(n), e)
		}
	}
	for _, n := range wrong() {
		if e := glushkov.Check(n); e != api.ErrNfa {
			t.Errorf("%s: %d", show(n), e)
		}
	}
}

func TestNone(t *testing.T) {
	for _, many := range []int{0, 1, 2, 63, 64, 65, 128, 129, 511, 512} {
		isState(t, "a blank one", nfa.None(blank(many)), put(many))
		isState(t, "one of everything", nfa.None(everything(many)), put(many))
	}
	isState(t, "the zero struct", nfa.None(api.Nfa{}), api.Bits{})
	isState(t, "Empty", nfa.None(glushkov.Empty()), api.Bits{})
	for _, n := range automata() {
		isState(t, show(n), nfa.None(n), put(len(n.Classes)))
	}
	for _, n := range wrong() {
		isState(t, show(n), nfa.None(n), api.Bits{})
	}
}

// abcd is a(?:b|c)*d, with positions 0 to 3.
func abcd() api.Nfa {
	return byHand("abcd", false, []int{0}, []int{3}, [2]int{0, 1}, [2]int{0, 2}, [2]int{0, 3}, [2]int{1, 1}, [2]int{1, 2}, [2]int{1, 3}, [2]int{2, 1}, [2]int{2, 2}, [2]int{2, 3})
}

func TestNextByHand(t *testing.T) {
	n := abcd()
	for _, x := range []struct {
		s     []int
		begin bool
		b     byte
		want  []int
	}{
		{nil, true, 'a', []int{0}},
		{nil, false, 'a', nil},
		{nil, true, 'b', nil},
		{[]int{0}, false, 'b', []int{1}},
		{[]int{0}, false, 'c', []int{2}},
		{[]int{0}, false, 'd', []int{3}},
		{[]int{0}, false, 'a', nil},
		{[]int{0}, true, 'a', []int{0}},
		{[]int{0}, true, 'b', []int{1}},
		{[]int{1, 2}, false, 'b', []int{1}},
		{[]int{3}, false, 'd', nil},
		{[]int{3}, true, 'a', []int{0}},
		{[]int{0, 1, 2, 3}, true, 'd', []int{3}},
		{[]int{0, 1, 2, 3}, true, 'x', nil},
		{[]int{0, 1, 2, 3}, true, 0, nil},
		{[]int{0, 1, 2, 3}, true, 255, nil},
	} {
		isState(t, fmt.Sprint(x), nfa.Next(n, put(4, x.s...), x.begin, x.b), put(4, x.want...))
	}
}

// A byte that is in several classes comes to all of them that follow, and to no other.
func TestNextToSeveral(t *testing.T) {
	n := byHand("....", false, []int{2}, nil, [2]int{0, 1}, [2]int{0, 3}, [2]int{1, 1})
	n.Classes = []api.Class{raw('a'), raw('a', 'b'), raw('b', 'c'), raw('b', 0, 255)}
	isState(t, "b", nfa.Next(n, put(4, 0), true, 'b'), put(4, 1, 2, 3))
	isState(t, "b, nothing beginning", nfa.Next(n, put(4, 0), false, 'b'), put(4, 1, 3))
	isState(t, "a", nfa.Next(n, put(4, 0), true, 'a'), put(4, 1))
	isState(t, "c", nfa.Next(n, put(4, 0), true, 'c'), put(4, 2))
	isState(t, "0", nfa.Next(n, put(4, 0, 1), true, 0), put(4, 3))
	isState(t, "255", nfa.Next(n, put(4, 0, 1), true, 255), put(4, 3))
	isState(t, "1", nfa.Next(n, put(4, 0, 1), true, 1), put(4))
	isState(t, "254", nfa.Next(n, put(4, 0, 1), true, 254), put(4))
}

func TestNextOfEachByte(t *testing.T) {
	r := chance(11)
	for range 40 {
		n := r.nfa(1 + r.below(9))
		s := r.state(len(n.Classes))
		for b := range 256 {
			for _, begin := range []bool{false, true} {
				isState(t, fmt.Sprint(show(n), s, begin, b), nfa.Next(n, s, begin, byte(b)), next(n, s, begin, byte(b)))
			}
		}
	}
	// One class a byte: each byte comes to its own position alone.
	n := everything(256)
	for b := range n.Classes {
		n.Classes[b] = raw(byte(b))
	}
	for b := range 256 {
		isState(t, fmt.Sprint(b), nfa.Next(n, put(256), true, byte(b)), put(256, b))
		isState(t, fmt.Sprint(b), nfa.Next(n, put(256, 255-b), false, byte(b)), put(256, b))
	}
}

func TestNextOfStates(t *testing.T) {
	r := chance(12)
	many := 0
	for _, n := range automata() {
		for _, b := range []byte{'a', 'b', 'c', '\n', 0, 255, 'z'} {
			for range 6 {
				s, begin := r.state(len(n.Classes)), r.is()
				want := next(n, s, begin, b)
				isState(t, fmt.Sprint(show(n), s, begin, b), nfa.Next(n, s, begin, b), want)
				many += len(numbers(want))
			}
		}
	}
	if many < 10000 {
		t.Error(many)
	}
}

// Positions at both sides of a word's end follow each other.
func TestNextOverTheEndOfAWord(t *testing.T) {
	for _, many := range []int{65, 128, 129, 200, 511, 512} {
		n := blank(many)
		for p := range many {
			n.Classes[p] = raw('a')
			n.Follow[p] = put(many, (p+1)%many, (p+64)%many)
		}
		n.First = put(many, 63, 64)
		for p := range many {
			isState(t, fmt.Sprint(many, p), nfa.Next(n, put(many, p), false, 'a'), put(many, (p+1)%many, (p+64)%many))
			isState(t, fmt.Sprint(many, p), nfa.Next(n, put(many, p), true, 'a'), put(many, (p+1)%many, (p+64)%many, 63, 64))
			isState(t, fmt.Sprint(many, p), nfa.Next(n, put(many, p), true, 'b'), put(many))
		}
		isState(t, fmt.Sprint(many), nfa.Next(n, put(many), true, 'a'), put(many, 63, 64))
	}
}

func TestNextOfTheEmptyState(t *testing.T) {
	for _, n := range automata() {
		none := put(len(n.Classes))
		for _, b := range []byte{'a', '\n', 0, 255} {
			isState(t, show(n), nfa.Next(n, none, false, b), none)
			isState(t, show(n), nfa.Next(n, none, true, b), next(n, none, true, b))
		}
	}
}

func TestNextOfStatesThatMayNotBe(t *testing.T) {
	for _, many := range []int{1, 2, 3, 63, 64, 65, 130} {
		n := everything(many)
		n.First = put(many, many-1)
		for _, s := range wrongStates(many) {
			isState(t, fmt.Sprint(many, s), nfa.Next(n, s, false, 'a'), put(many))
			isState(t, fmt.Sprint(many, s), nfa.Next(n, s, true, 'a'), n.First)
		}
	}
	for _, s := range []api.Bits{put(1, 0), put(64, 5), {Words: []uint64{1}}, {N: -1}} {
		isState(t, fmt.Sprint(s), nfa.Next(api.Nfa{}, s, true, 'a'), api.Bits{})
	}
}

func TestNextOfAutomataThatMayNotBe(t *testing.T) {
	for _, n := range wrong() {
		for _, s := range []api.Bits{{}, n.First, n.Last, all(len(n.Classes)), put(len(n.Classes))} {
			for _, begin := range []bool{false, true} {
				isState(t, show(n), nfa.Next(n, s, begin, 'a'), api.Bits{})
			}
		}
	}
}

func TestAccepts(t *testing.T) {
	n := byHand("abcd", true, []int{0}, []int{1, 3})
	for _, x := range []struct {
		s    []int
		want bool
	}{{nil, false}, {[]int{0}, false}, {[]int{1}, true}, {[]int{2}, false}, {[]int{3}, true}, {[]int{0, 2}, false}, {[]int{0, 1}, true}, {[]int{0, 1, 2, 3}, true}} {
		if got := nfa.Accepts(n, put(4, x.s...)); got != x.want {
			t.Error(x.s, got)
		}
	}
	r := chance(13)
	yes, no := 0, 0
	for _, n := range automata() {
		for p := range n.Classes {
			if nfa.Accepts(n, put(len(n.Classes), p)) != in(n.Last, p) {
				t.Fatal(show(n), p)
			}
		}
		for range 20 {
			s := r.state(len(n.Classes))
			want := meet(s, n.Last)
			if nfa.Accepts(n, s) != want {
				t.Fatal(show(n), s)
			}
			if want {
				yes++
			} else {
				no++
			}
		}
	}
	if yes < 50 || no < 50 {
		t.Error(yes, no)
	}
}

// Null is nothing to a state: it is for the empty text alone.
func TestAcceptsWithoutPositions(t *testing.T) {
	for _, n := range []api.Nfa{{}, {Null: true}, glushkov.Empty()} {
		for _, s := range []api.Bits{{}, {Words: []uint64{}}, put(1, 0), {N: -1}, {Words: []uint64{1}}} {
			if nfa.Accepts(n, s) || !nfa.Dead(n, s) {
				t.Error(show(n), s)
			}
		}
	}
}

func TestAcceptsAndDeadOfWhatMayNotBe(t *testing.T) {
	for _, many := range []int{1, 2, 3, 63, 64, 65, 130} {
		n := everything(many)
		for _, s := range wrongStates(many) {
			if nfa.Accepts(n, s) || !nfa.Dead(n, s) {
				t.Errorf("%d positions: %v", many, s)
			}
		}
	}
	for _, n := range wrong() {
		for _, s := range []api.Bits{{}, n.First, n.Last, all(len(n.Classes)), all(1)} {
			if nfa.Accepts(n, s) || !nfa.Dead(n, s) {
				t.Errorf("%s: %v", show(n), s)
			}
		}
	}
}

func TestDead(t *testing.T) {
	for _, many := range []int{0, 1, 2, 64, 65, 129, 512} {
		for _, n := range []api.Nfa{blank(many), everything(many)} {
			if !nfa.Dead(n, put(many)) {
				t.Errorf("%d positions, none", many)
			}
			for p := range many {
				if nfa.Dead(n, put(many, p)) {
					t.Errorf("%d positions, %d", many, p)
				}
			}
		}
	}
}

func TestRun(t *testing.T) {
	n := abcd()
	for _, x := range []struct {
		s    []int
		w    string
		want []int
	}{
		{[]int{0}, "b", []int{1}}, {[]int{0}, "bc", []int{2}}, {[]int{0}, "bccbd", []int{3}},
		{[]int{0}, "a", nil}, {nil, "a", nil}, {nil, "abd", nil}, {[]int{0}, "bad", nil}, {[]int{3}, "d", nil},
		{[]int{0, 3}, "d", []int{3}}, {[]int{0, 1, 2, 3}, "", []int{0, 1, 2, 3}},
	} {
		isState(t, x.w, nfa.Run(n, put(4, x.s...), []byte(x.w)), put(4, x.want...))
	}
	r := chance(14)
	alive := 0
	for _, n := range automata() {
		for range 12 {
			s, w := r.state(len(n.Classes)), r.text(12)
			want := s
			for _, b := range w {
				want = next(n, want, false, b)
			}
			isState(t, fmt.Sprintf("%s %v %q", show(n), s, w), nfa.Run(n, s, w), want)
			alive += len(numbers(want))
		}
	}
	if alive < 1000 {
		t.Error(alive)
	}
}

func TestRunOfNoBytes(t *testing.T) {
	r := chance(15)
	for _, n := range automata() {
		many := len(n.Classes)
		for _, w := range [][]byte{nil, {}} {
			for _, s := range []api.Bits{put(many), all(many), r.state(many)} {
				isState(t, show(n), nfa.Run(n, s, w), s)
			}
		}
	}
	for _, many := range []int{1, 3, 64, 65} {
		for _, s := range wrongStates(many) {
			isState(t, fmt.Sprint(many, s), nfa.Run(everything(many), s, nil), put(many))
			isState(t, fmt.Sprint(many, s), nfa.Run(everything(many), s, []byte("ab")), put(many))
		}
	}
	for _, n := range wrong() {
		for _, s := range []api.Bits{{}, n.First, n.Last, all(len(n.Classes))} {
			isState(t, show(n), nfa.Run(n, s, nil), api.Bits{})
			isState(t, show(n), nfa.Run(n, s, []byte("ab")), api.Bits{})
		}
	}
}

// Each byte has positions of its own, also when it comes again.
func TestRunOfManyBytes(t *testing.T) {
	n := everything(256)
	for b := range n.Classes {
		n.Classes[b] = raw(byte(b))
	}
	var w []byte
	for k := range 1 << 12 {
		w = append(w, byte(k*k+k/256))
		if k%64 == 0 {
			isState(t, fmt.Sprint(k), nfa.Run(n, all(256), w), put(256, int(w[k])))
		}
	}
	long := slices.Repeat([]byte("ab"), 1<<19)
	two := byHand("ab", false, []int{0}, []int{1}, [2]int{0, 1}, [2]int{1, 0})
	isState(t, "long", nfa.Run(two, put(2, 1), long), put(2, 1))
	isState(t, "long, and one more", nfa.Run(two, put(2, 1), append(long, 'a')), put(2, 0))
	isState(t, "long, and another", nfa.Run(two, put(2, 1), append(long, 'b')), put(2))
	isState(t, "as many positions as there may be", nfa.Run(everything(512), put(512, 511), long[:1<<14]), all(512))
}
