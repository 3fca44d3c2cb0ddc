package meaning

import (
	"iter"
	"math/bits"
)

const (
	// wordBits is how many widths a word of a row holds.
	wordBits = 64
	// endless is the Most of a repeat that has no end.
	endless = -1
)

// row is a set of widths, of what is meant from one place on: n is in it, if the bit n % 64 of word n / 64 is 1. Its last word is not 0: texts may be long where what is meant is short.
type row []uint64

func (r row) has(width int) bool {
	at := width / wordBits
	return at < len(r) && r[at]>>(width%wordBits)&1 == 1
}

// widths goes through the widths of a row, rising.
func (r row) widths() iter.Seq[int] {
	return func(yield func(int) bool) {
		for at, word := range r {
			for ; word != 0; word &= word - 1 {
				if !yield(at*wordBits + bits.TrailingZeros64(word)) {
					return
				}
			}
		}
	}
}

// with answers r, which is written to, and the widths of other, each of them so many greater.
func (r row) with(other row, more int) row {
	if len(other) == 0 {
		return r
	}
	at, shift := more/wordBits, more%wordBits
	words := at + len(other)
	if other[len(other)-1]>>(wordBits-shift) != 0 {
		words++
	}
	if words > len(r) {
		r = append(r, make(row, words-len(r))...)
	}
	for i, word := range other {
		r[at+i] |= word << shift
		if over := word >> (wordBits - shift); over != 0 {
			r[at+i+1] |= over
		}
	}
	return r
}

// table is a row for each place. No row of it is written to any more once it is made.
type table []row

// rowByRow makes a table of so many places, from the last one to the first, so that a row can be made of those behind it.
func rowByRow(places int, rowAt func(behind table, at int) row) table {
	t := make(table, places)
	at := places
ahead:
	if at == 0 {
		return t
	}
	at--
	t[at] = rowAt(t, at)
	goto ahead
}

// stay answers the spans of no bytes, at each place.
func stay(places int) table {
	return rowByRow(places, func(table, int) row { return row{1} })
}

// cat answers the spans that go along one of a, and behind it along one of b.
func cat(a, b table) table {
	return rowByRow(len(a), func(_ table, at int) row {
		var both row
		for width := range a[at].widths() {
			both = both.with(b[at+width], width)
		}
		return both
	})
}

// alt answers the spans of a and those of b.
func alt(a, b table) table {
	return rowByRow(len(a), func(_ table, at int) row {
		return row{}.with(a[at], 0).with(b[at], 0)
	})
}

// repeat answers the spans that go along least to most ones of a, one behind the other.
func repeat(a table, least, most int) table {
	widest := len(a) - 1
	// No more of them have bytes than the widest span has. Of a greater number some have none, and how often these come is nothing.
	ahead := power(a, min(least, widest+1))
	if most == endless || most-least >= widest {
		return cat(ahead, star(a))
	}
	return cat(ahead, power(alt(a, stay(len(a))), most-least))
}

// power answers the spans that go along just so many of a, one behind the other.
func power(a table, many int) table {
	all := stay(len(a))
half:
	if many%2 == 1 {
		all = cat(all, a)
	}
	many /= 2
	if many == 0 {
		return all
	}
	a = cat(a, a)
	goto half
}

// star answers the spans that go along any number of a, one behind the other.
func star(a table) table {
	return rowByRow(len(a), func(behind table, at int) row {
		all := row{1}
		for width := range a[at].widths() {
			// What is there already came by way of a lesser width, and all that goes on from there with it.
			if !all.has(width) {
				all = all.with(behind[at+width], width)
			}
		}
		return all
	})
}
