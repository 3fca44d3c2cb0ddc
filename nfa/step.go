package nfa

import (
	"iter"
	mathbits "math/bits"

	"riddle/api"
	"riddle/bits"
	"riddle/class"
)

// runner is an automaton that is sound, and its state, as it goes through a text.
type runner struct {
	n   api.Nfa
	now api.Bits
	// The state ahead of the last byte: its memory is the next one's.
	spare api.Bits
	// Of each byte that has come what having answers; of the others the zero set, as most bytes never come.
	has [256]api.Bits
}

func runnerOf(n api.Nfa) *runner { return &runner{n: n, now: noneOf(n), spare: noneOf(n)} }

// step goes on by one byte.
func (r *runner) step(begin bool, b byte) {
	if r.has[b].N != r.now.N {
		r.has[b] = having(r.n, b)
	}
	step(r.n, r.spare, r.now, begin, r.has[b])
	r.now, r.spare = r.spare, r.now
}

// places goes through the places in w at which a text of n ends that is not empty, and that begins at a place of which begins holds.
func places(n api.Nfa, w []byte, begins func(at int) bool) iter.Seq[int] {
	return func(yield func(int) bool) {
		r := runnerOf(n)
		at := 0
	further:
		if at == len(w) {
			return
		}
		r.step(begins(at), w[at])
		at++
		if bits.Meet(r.now, n.Last) && !yield(at) {
			return
		}
		goto further
	}
}

// having answers the positions of n whose class has b.
func having(n api.Nfa, b byte) api.Bits {
	l := noneOf(n)
	for p, c := range n.Classes {
		if class.Has(c, b) {
			l.Words[p/64] |= 1 << (p % 64)
		}
	}
	return l
}

// step writes into next the state behind a byte that the positions of has take, s being the one ahead of it. All sets are of n's positions. It goes by words, in memory that is there: each byte of a stream comes here.
func step(n api.Nfa, next, s api.Bits, begin bool, has api.Bits) {
	clear(next.Words)
	if begin {
		copy(next.Words, n.First.Words)
	}
	for i, word := range s.Words {
		for ; word != 0; word &= word - 1 {
			p := i*64 + mathbits.TrailingZeros64(word)
			join(next.Words, n.Follow[p].Words)
		}
	}
	for i, word := range has.Words {
		next.Words[i] &= word
	}
}

// join puts the numbers of more into all, which has as many words.
func join(all, more []uint64) {
	for i, word := range more {
		all[i] |= word
	}
}
