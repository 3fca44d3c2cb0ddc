package bucket_test

import (
	"fmt"
	"math"
	"slices"
	"strings"

	"riddle/api"
)

// What the tests hold the package against is made here without a call of the package.

// lit is the literal of these bytes; of one behind a ~ with Fold.
func lit(s string) api.Literal {
	var l api.Literal
	fold := false
	for _, b := range []byte(s) {
		if b == '~' {
			fold = true
			continue
		}
		l = append(l, api.Letter{Byte: b, Fold: fold})
		fold = false
	}
	return l
}

func lits(l ...string) []api.Literal {
	var all []api.Literal
	for _, s := range l {
		all = append(all, lit(s))
	}
	return all
}

// show is literals as lit reads them.
func show(all ...api.Literal) string {
	var s strings.Builder
	for _, l := range all {
		for _, x := range l {
			if x.Fold {
				s.WriteByte('~')
			}
			s.WriteByte(x.Byte)
		}
		s.WriteByte(' ')
	}
	return fmt.Sprintf("%.300q", s.String())
}

// The chapter's words as they stand.

func isSmall(b byte) bool { return 'a' <= b && b <= 'z' }

// takes are the bytes that a letter takes.
func takes(l api.Letter) []byte {
	if l.Fold && isSmall(l.Byte) {
		return []byte{l.Byte - 32, l.Byte}
	}
	return []byte{l.Byte}
}

// may is whether a literal is such as the chapter of literals lets it be.
func may(l api.Literal) bool {
	return 2 <= len(l) && len(l) <= 16 && !slices.ContainsFunc(l, func(x api.Letter) bool { return x.Fold && !isSmall(x.Byte) })
}

func standsAt(l api.Literal, w []byte, at int) bool {
	if len(l) > len(w)-at {
		return false
	}
	for k, x := range l {
		if !slices.Contains(takes(x), w[at+k]) {
			return false
		}
	}
	return true
}

// errorOf is the error of these literals, or OK.
func errorOf(l []api.Literal) api.Errno {
	switch {
	case len(l) > 256:
		return api.ErrLong
	case slices.ContainsFunc(l, func(x api.Literal) bool { return !may(x) }):
		return api.ErrLiteral
	}
	return api.OK
}

func low(b byte) int  { return int(b) % 16 }
func high(b byte) int { return int(b) / 16 }

// has is whether l has no i-th letter, or one that takes a byte with that nibble.
func has(l api.Literal, i, x int, nibble func(byte) int) bool {
	return i >= len(l) || slices.ContainsFunc(takes(l[i]), func(b byte) bool { return nibble(b) == x })
}

// masksOf are the masks of literals that may be.
func masksOf(l []api.Literal) api.Masks {
	m := api.Masks{Many: len(l)}
	for i := range 3 {
		for x := range 16 {
			for k, one := range l {
				if has(one, i, x, low) {
					m.Lo[i][x] |= bits[k%8]
				}
				if has(one, i, x, high) {
					m.Hi[i][x] |= bits[k%8]
				}
			}
		}
	}
	return m
}

var bits = [8]byte{1, 2, 4, 8, 16, 32, 64, 128}

// lookOf is bit by bit.
func lookOf(m api.Masks, w []byte) byte {
	var all byte
	for _, bit := range bits {
		is := true
		for i, b := range w {
			is = is && (i >= 3 || m.Lo[i][low(b)]&bit != 0 && m.Hi[i][high(b)]&bit != 0)
		}
		if is {
			all += bit
		}
	}
	return all
}

// place is what Scan tells of one.
type place struct {
	at      int
	buckets byte
}

// placesOf are the places that Scan tells.
func placesOf(m api.Masks, w []byte) []place {
	var l []place
	for at := range w {
		rest := w[at:]
		if buckets := lookOf(m, rest[:min(3, len(rest))]); buckets != 0 && len(rest) >= 2 {
			l = append(l, place{at, buckets})
		}
	}
	return l
}

// membersOf are the numbers that Members tells.
func membersOf(m api.Masks, buckets byte) []int {
	var l []int
	for k := range 256 {
		if k < m.Many && buckets&bits[k%8] != 0 {
			l = append(l, k)
		}
	}
	return l
}

// Samples

// chance makes numbers of no order, always the same ones.
type chance uint64

func (c *chance) next() uint64 {
	*c = *c*6364136223846793005 + 1442695040888963407
	x := uint64(*c)
	return x ^ x>>33
}

func (c *chance) below(n int) int { return int((c.next() >> 8) % uint64(n)) }

func (c *chance) is() bool { return c.below(2) == 1 }

// text is of up to so many of these bytes; of any, if none are named.
func (c *chance) text(most int, of string) []byte {
	w := make([]byte, c.below(most+1))
	for i := range w {
		if w[i] = byte(c.next() >> 16); of != "" {
			w[i] = of[c.below(len(of))]
		}
	}
	return w
}

// literal is one that may be, of from two to so many of these bytes.
func (c *chance) literal(most int, of string) api.Literal {
	var l api.Literal
	for len(l) < 2 {
		l = nil
		for _, b := range c.text(most, of) {
			l = append(l, api.Letter{Byte: b, Fold: isSmall(b) && c.is()})
		}
	}
	return l
}

// literals are just so many.
func (c *chance) literals(many, most int, of string) []api.Literal {
	var l []api.Literal
	for range many {
		l = append(l, c.literal(most, of))
	}
	return l
}

// around is a text in which some of the literals stand, between other bytes.
func (c *chance) around(l []api.Literal, of string) []byte {
	var w []byte
	for range c.below(6) {
		w = append(w, c.text(3, of)...)
		if len(l) > 0 {
			for _, x := range l[c.below(len(l))] {
				w = append(w, takes(x)[c.below(len(takes(x)))])
			}
		}
		w = w[:len(w)-c.below(len(w)+1)/8]
	}
	return w
}

// masks are any at all, of few bits or of many.
func (c *chance) masks() api.Masks {
	m := api.Masks{Many: c.below(300) - 20}
	full := c.below(4)
	for i := range 3 {
		for x := range 16 {
			lo, hi := c.next(), c.next()
			for range full {
				lo, hi = lo|c.next(), hi|c.next()
			}
			m.Lo[i][x], m.Hi[i][x] = byte(lo>>20), byte(hi>>20)
		}
	}
	return m
}

// alphabets are such that few literals are many, and such that they share nibbles, or have all there are.
var alphabets = []string{"ab", "aA", "abAB", "ap!1", "az[{@`Z", "\x00\xff\x0f\xf0", "0123456789abcdefghijklmnopqrstuvwxyzABCXYZ", ""}

// eachText goes through all texts of these bytes, up to so many of them.
func eachText(of string, most int, f func(w []byte)) {
	texts := [][]byte{nil}
	for range most + 1 {
		var longer [][]byte
		for _, w := range texts {
			f(w)
			for i := range len(of) {
				longer = append(longer, append(slices.Clone(w), of[i]))
			}
		}
		texts = longer
	}
}

// eachLiteral goes through all literals of these letters, from two up to so many of them.
func eachLiteral(of api.Literal, most int, f func(l api.Literal)) {
	literals := []api.Literal{nil}
	for n := range most + 1 {
		var longer []api.Literal
		for _, l := range literals {
			if n >= 2 {
				f(l)
			}
			for _, x := range of {
				longer = append(longer, append(slices.Clone(l), x))
			}
		}
		literals = longer
	}
}

// all is a mask of all bits.
var all = func() api.Masks {
	var m api.Masks
	for i := range 3 {
		for x := range 16 {
			m.Lo[i][x], m.Hi[i][x] = 255, 255
		}
	}
	return m
}()

// far are numbers that are elsewhere.
var far = []int{math.MinInt, math.MinInt + 1, -1 << 40, -256, -9, -8, -7, -2, -1, 1 << 40, math.MaxInt - 1, math.MaxInt}
