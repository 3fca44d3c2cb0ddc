package reverse_test

import (
	"fmt"
	"testing"

	"riddle/api"
	"riddle/glushkov"
	"riddle/nfa"
	"riddle/reverse"
)

// P12.1

func TestSamples(t *testing.T) {
	for _, n := range append(automata(), small()...) {
		if e := glushkov.Check(n); e != api.OK {
			t.Errorf("%s: %d", show(n), e)
		}
	}
	for _, n := range wrong() {
		if e := glushkov.Check(n); e != api.ErrNfa {
			t.Errorf("%s: %d", show(n), e)
		}
	}
}

// abcd is a(?:b|c)*d, with positions 0 to 3.
func abcd() api.Nfa {
	return byHand("abcd", false, []int{0}, []int{3}, [2]int{0, 1}, [2]int{0, 2}, [2]int{0, 3}, [2]int{1, 1}, [2]int{1, 2}, [2]int{1, 3}, [2]int{2, 1}, [2]int{2, 2}, [2]int{2, 3})
}

func TestReverseByHand(t *testing.T) {
	want := byHand("abcd", false, []int{3}, []int{0}, [2]int{1, 0}, [2]int{2, 0}, [2]int{3, 0}, [2]int{1, 1}, [2]int{2, 1}, [2]int{3, 1}, [2]int{1, 2}, [2]int{2, 2}, [2]int{3, 2})
	isNfa(t, "a(?:b|c)*d", reverse.Reverse(abcd()), want)
	// First and Last of several positions, and pairs that stand one way alone.
	n := byHand("abc", true, []int{0, 1}, []int{2}, [2]int{0, 1}, [2]int{0, 2}, [2]int{2, 2})
	isNfa(t, "three", reverse.Reverse(n), byHand("abc", true, []int{2}, []int{0, 1}, [2]int{1, 0}, [2]int{2, 0}, [2]int{2, 2}))
	// A pattern's, whose positions are in its own order still.
	isNfa(t, "ab+", reverse.Reverse(of(t, "ab+")), byHand("abb", false, []int{1, 2}, []int{0}, [2]int{1, 0}, [2]int{2, 1}, [2]int{2, 2}))
}

func TestTurnByHand(t *testing.T) {
	want := byHand("dcba", false, []int{3}, []int{0}, [2]int{3, 2}, [2]int{3, 1}, [2]int{3, 0}, [2]int{2, 2}, [2]int{2, 1}, [2]int{2, 0}, [2]int{1, 2}, [2]int{1, 1}, [2]int{1, 0})
	isNfa(t, "a(?:b|c)*d", reverse.Turn(abcd()), want)
	n := byHand("abc", true, []int{0, 1}, []int{2}, [2]int{0, 1}, [2]int{0, 2}, [2]int{2, 2})
	isNfa(t, "three", reverse.Turn(n), byHand("cba", true, []int{1, 2}, []int{0}, [2]int{2, 1}, [2]int{2, 0}, [2]int{0, 0}))
}

func TestReverseAndTurn(t *testing.T) {
	for _, n := range append(small(), automata()...) {
		isNfa(t, "Reverse of "+show(n), reverse.Reverse(n), reversed(n))
		isNfa(t, "Turn of "+show(n), reverse.Turn(n), turned(n))
	}
}

func TestReverseAndTurnOfNoPositions(t *testing.T) {
	for _, n := range []api.Nfa{{}, {Null: true}, glushkov.Empty()} {
		isNfa(t, show(n), reverse.Reverse(n), n)
		isNfa(t, show(n), reverse.Turn(n), n)
	}
}

func TestReverseAndTurnOfOnePosition(t *testing.T) {
	leaf := glushkov.Leaf(raw('a', 'b'))
	isNfa(t, "Leaf", reverse.Reverse(leaf), leaf)
	isNfa(t, "Leaf", reverse.Turn(leaf), leaf)
	// First and not Last, and the other way round; behind itself, or not.
	for _, edges := range [][][2]int{nil, {{0, 0}}} {
		for _, null := range []bool{false, true} {
			first, last := byHand("a", null, []int{0}, nil, edges...), byHand("a", null, nil, []int{0}, edges...)
			isNfa(t, show(first), reverse.Reverse(first), last)
			isNfa(t, show(last), reverse.Reverse(last), first)
			isNfa(t, show(first), reverse.Turn(first), first)
			isNfa(t, show(last), reverse.Turn(last), last)
		}
	}
}

// One pair, and one position that is first, at each place about the ends of words.
func TestReverseAndTurnOverTheEndsOfWords(t *testing.T) {
	for _, many := range []int{63, 64, 65, 127, 128, 129, 511, 512} {
		places := []int{0, 1, 31, 62}
		for _, p := range []int{63, 64, 65, 127, 128, 191, 448, many - 2, many - 1} {
			if p < many {
				places = append(places, p)
			}
		}
		for _, p := range places {
			for _, q := range places {
				n, back, turn := blank(many), blank(many), blank(many)
				n.Classes[p], back.Classes[p], turn.Classes[many-1-p] = raw('a'), raw('a'), raw('a')
				n.First, back.Last, turn.First = put(many, p), put(many, p), put(many, many-1-p)
				n.Last, back.First, turn.Last = put(many, q), put(many, q), put(many, many-1-q)
				n.Follow[p], back.Follow[q], turn.Follow[many-1-p] = put(many, q), put(many, p), put(many, many-1-q)
				isNfa(t, fmt.Sprint("Reverse ", many, p, q), reverse.Reverse(n), back)
				isNfa(t, fmt.Sprint("Turn ", many, p, q), reverse.Turn(n), turn)
			}
		}
	}
	for _, many := range []int{64, 65, 512} {
		isNfa(t, "everything", reverse.Reverse(everything(many)), everything(many))
		isNfa(t, "everything", reverse.Turn(everything(many)), everything(many))
	}
}

func TestReverseAndTurnOfAutomataThatMayNotBe(t *testing.T) {
	null := 0
	for _, n := range wrong() {
		isNfa(t, "Reverse of "+show(n), reverse.Reverse(n), api.Nfa{})
		isNfa(t, "Turn of "+show(n), reverse.Turn(n), api.Nfa{})
		if n.Null {
			null++
		}
	}
	if null < 50 {
		t.Error(null)
	}
}

func TestBackByHand(t *testing.T) {
	n := abcd()
	for _, x := range []struct {
		s     []int
		begin bool
		b     byte
		want  []int
	}{
		{nil, true, 'd', []int{3}},
		{nil, false, 'd', nil},
		{nil, true, 'a', nil},
		{[]int{3}, false, 'c', []int{2}},
		{[]int{3}, false, 'b', []int{1}},
		{[]int{3}, false, 'a', []int{0}},
		{[]int{3}, false, 'd', nil},
		{[]int{3}, true, 'd', []int{3}},
		{[]int{3}, true, 'a', []int{0}},
		{[]int{1, 2}, false, 'b', []int{1}},
		{[]int{0}, false, 'a', nil},
		{[]int{0}, true, 'd', []int{3}},
		{[]int{0, 1, 2, 3}, true, 'a', []int{0}},
		{[]int{0, 1, 2, 3}, true, 'x', nil},
		{[]int{0, 1, 2, 3}, true, 0, nil},
		{[]int{0, 1, 2, 3}, true, 255, nil},
	} {
		isState(t, fmt.Sprint(x), reverse.Back(n, put(4, x.s...), x.begin, x.b), put(4, x.want...))
	}
}

// The bytes at both ends are as any other.
func TestBackOfTheFirstAndTheLastByte(t *testing.T) {
	n := byHand("....", false, nil, []int{2}, [2]int{1, 0}, [2]int{3, 0})
	n.Classes = []api.Class{raw('a'), raw(0), raw(0, 255), raw(255)}
	isState(t, "0", reverse.Back(n, put(4, 0), true, 0), put(4, 1, 2))
	isState(t, "0, nothing beginning", reverse.Back(n, put(4, 0), false, 0), put(4, 1))
	isState(t, "255", reverse.Back(n, put(4, 0), true, 255), put(4, 2, 3))
	isState(t, "255, nothing beginning", reverse.Back(n, put(4, 0), false, 255), put(4, 3))
	isState(t, "1", reverse.Back(n, put(4, 0), true, 1), put(4))
	isState(t, "254", reverse.Back(n, put(4, 0), true, 254), put(4))
	for _, n := range automata() {
		for _, b := range []byte{0, 255} {
			for _, begin := range []bool{false, true} {
				isState(t, fmt.Sprint(show(n), b), reverse.Back(n, all(len(n.Classes)), begin, b), next(reversed(n), all(len(n.Classes)), begin, b))
			}
		}
	}
}

func TestBack(t *testing.T) {
	r := chance(11)
	many := 0
	for _, n := range append(small(), automata()...) {
		back := reversed(n)
		for _, b := range []byte{'a', 'b', 'c', '\n', 'z'} {
			for _, begin := range []bool{false, true} {
				s := r.state(len(n.Classes))
				got, want := reverse.Back(n, s, begin, b), next(back, s, begin, b)
				isState(t, fmt.Sprint(show(n), s, begin, b), got, want)
				isState(t, fmt.Sprint(show(n), s, begin, b), got, nfa.Next(back, s, begin, b))
				many += len(numbers(want))
			}
		}
	}
	if many < 2000 {
		t.Error(many)
	}
}

// A state that may not be is taken as the empty one.
func TestBackOfStatesThatMayNotBe(t *testing.T) {
	for _, many := range []int{1, 2, 3, 64, 65} {
		n := everything(many)
		n.Last = put(many, many-1)
		for _, s := range wrongStates(many) {
			isState(t, fmt.Sprint(many, s), reverse.Back(n, s, false, 'a'), put(many))
			isState(t, fmt.Sprint(many, s), reverse.Back(n, s, true, 'a'), put(many, many-1))
		}
	}
	for _, s := range []api.Bits{all(1), put(64), {Words: []uint64{1}}, {N: -1}} {
		isState(t, "no positions", reverse.Back(api.Nfa{}, s, true, 'a'), api.Bits{})
	}
}

func TestBackOfAutomataThatMayNotBe(t *testing.T) {
	for _, n := range wrong() {
		for _, s := range []api.Bits{{}, n.First, n.Last, all(len(n.Classes))} {
			isState(t, show(n), reverse.Back(n, s, true, 'a'), api.Bits{})
			isState(t, show(n), reverse.Back(n, s, false, 'a'), api.Bits{})
		}
	}
}
