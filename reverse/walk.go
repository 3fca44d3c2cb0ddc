package reverse

import (
	"iter"
	mathbits "math/bits"

	"riddle/api"
	"riddle/bits"
	"riddle/class"
)

// walker is an automaton that Reverse made, and its state, as it goes back through a text.
type walker struct {
	back api.Nfa
	now  api.Bits
	// The state behind the last byte: its memory is the next one's.
	spare api.Bits
	// Of each byte that has come what having answers; of the others the zero set, as most bytes never come.
	has [256]api.Bits
}

func walkerOf(back api.Nfa) *walker {
	return &walker{back: back, now: noneOf(back), spare: noneOf(back)}
}

// places goes through the places in w, falling, from which on to the end of w there is a text whose turned one back takes.
func places(back api.Nfa, w []byte) iter.Seq[int] {
	return func(yield func(int) bool) {
		at := len(w)
		if back.Null && !yield(at) {
			return
		}
		r := walkerOf(back)
	further:
		if at == 0 {
			return
		}
		at--
		r.step(at == len(w)-1, w[at])
		// From an empty state nothing comes any more, however long the text is that is still ahead.
		if bits.Count(r.now) == 0 || bits.Meet(r.now, back.Last) && !yield(at) {
			return
		}
		goto further
	}
}

// step goes back by one byte.
func (r *walker) step(begin bool, b byte) {
	if r.has[b].N != r.now.N {
		r.has[b] = having(r.back, b)
	}
	step(r.back, r.spare, r.now, begin, r.has[b])
	r.now, r.spare = r.spare, r.now
}

// having answers the positions whose class has b.
func having(back api.Nfa, b byte) api.Bits {
	l := noneOf(back)
	for p, c := range back.Classes {
		if class.Has(c, b) {
			l.Words[p/64] |= 1 << (p % 64)
		}
	}
	return l
}

// step writes into next what nfa.Next answers of s and a byte that the positions of has take. It goes by words, in memory that is there: nfa.Next looks at the whole automaton at each byte.
func step(back api.Nfa, next, s api.Bits, begin bool, has api.Bits) {
	clear(next.Words)
	if begin {
		copy(next.Words, back.First.Words)
	}
	for i, word := range s.Words {
		for ; word != 0; word &= word - 1 {
			p := i*64 + mathbits.TrailingZeros64(word)
			join(next.Words, back.Follow[p].Words)
		}
	}
	for i, word := range has.Words {
		next.Words[i] &= word
	}
}

// join puts the numbers of more into all, which has as many words.
func join(all, more []uint64) {
	for i, word := range more {
		all[i] |= word
	}
}
