package ring_test

import (
	"fmt"
	"iter"
	"math"
	"slices"
	"testing"

	"riddle/api"
)

// What the tests hold the package against is made here without a call of the package.

func raw(l ...byte) api.Class {
	var c api.Class
	for _, b := range l {
		c[b/64] |= 1 << (b % 64)
	}
	return c
}

var full = api.Class{math.MaxUint64, math.MaxUint64, math.MaxUint64, math.MaxUint64}

func inClass(c api.Class, b byte) bool { return c[b/64]&(1<<(b%64)) != 0 }

// of is the ring of these bytes.
func of(letters string, least, most int) api.Ring {
	return api.Ring{Class: raw([]byte(letters)...), Least: least, Most: most}
}

// put is the set of these numbers, word by word.
func put(many int, l ...int) api.Bits {
	s := api.Bits{N: many, Words: make([]uint64, (many+63)/64)}
	for _, n := range l {
		s.Words[n/64] |= 1 << (n % 64)
	}
	return s
}

// all is the set of all numbers below many.
func all(many int) api.Bits { return put(many, upTo(many)...) }

func upTo(many int) []int {
	var l []int
	for n := range many {
		l = append(l, n)
	}
	return l
}

func numbers(s api.Bits) []int {
	var l []int
	for n := range s.N {
		if s.Words[n/64]&(1<<(n%64)) != 0 {
			l = append(l, n)
		}
	}
	return l
}

func equalSet(a, b api.Bits) bool { return a.N == b.N && slices.Equal(a.Words, b.Words) }

// isState fails unless s is the set want, word by word.
func isState(t *testing.T, what string, s, want api.Bits) {
	t.Helper()
	if !equalSet(s, want) {
		t.Fatalf("%s: %d %x, not %d %x", what, s.N, s.Words, want.N, want.Words)
	}
}

func isTold(t *testing.T, what string, told iter.Seq[int], want []int) {
	t.Helper()
	if got := slices.Collect(told); !slices.Equal(got, want) {
		t.Fatalf("%s: %v, not %v", what, got, want)
	}
}

func show(r api.Ring) string { return fmt.Sprintf("{%x, %d to %d}", r.Class, r.Least, r.Most) }

// may is whether a ring's numbers are such as the chapter lets them be.
func may(r api.Ring) bool {
	return 1 <= r.Most && r.Most <= 1000 && 0 <= r.Least && r.Least <= r.Most
}

// taken is the ring that the calls take r as.
func taken(r api.Ring) api.Ring {
	if !may(r) {
		return api.Ring{Most: 1}
	}
	return r
}

// agesOf are the ages of s as the calls take it for r: none, if r has no such state.
func agesOf(r api.Ring, s api.Bits) []int {
	many := taken(r).Most + 1
	if s.N != many || len(s.Words) != (many+63)/64 {
		return nil
	}
	if many%64 != 0 && s.Words[many/64]>>(many%64) != 0 {
		return nil
	}
	return numbers(s)
}

// next takes the chapter's words as they stand, age by age.
func next(r api.Ring, ages []int, b byte) []int {
	r = taken(r)
	var l []int
	for _, age := range ages {
		if inClass(r.Class, b) && age+1 <= r.Most {
			l = append(l, age+1)
		}
	}
	return l
}

func run(r api.Ring, ages []int, w []byte) []int {
	for _, b := range w {
		ages = next(r, ages, b)
	}
	return ages
}

func accepts(r api.Ring, ages []int) bool {
	return slices.ContainsFunc(ages, func(age int) bool { return age >= taken(r).Least })
}

// ends takes the chapter's words as they stand, place by place, age by age.
func ends(r api.Ring, triggers []int, w []byte) []int {
	var ages, l []int
	for j := range len(w) + 1 {
		if j > 0 {
			ages = next(r, ages, w[j-1])
		}
		if slices.Contains(triggers, j) && !slices.Contains(ages, 0) {
			ages = append(ages, 0)
		}
		if accepts(r, ages) {
			l = append(l, j)
		}
	}
	return l
}

// repeats are the places of w up to which there is the repeat from some trigger on, all pairs tried one by one.
func repeats(r api.Ring, triggers []int, w []byte) []int {
	r = taken(r)
	var l []int
	for j := range len(w) + 1 {
		if slices.ContainsFunc(triggers, func(i int) bool { return isRepeat(r, w, i, j) }) {
			l = append(l, j)
		}
	}
	return l
}

func isRepeat(r api.Ring, w []byte, i, j int) bool {
	if i < 0 || i > j || j-i < r.Least || j-i > r.Most {
		return false
	}
	return !slices.ContainsFunc(w[i:j], func(b byte) bool { return !inClass(r.Class, b) })
}

// eachText goes through all texts of these bytes, up to so many of them.
func eachText(letters string, most int, f func(w []byte)) {
	texts := [][]byte{nil}
	for range most + 1 {
		var longer [][]byte
		for _, w := range texts {
			f(w)
			for i := range len(letters) {
				longer = append(longer, append(slices.Clone(w), letters[i]))
			}
		}
		texts = longer
	}
}

// chance makes numbers of no order, always the same ones.
type chance uint64

func (c *chance) next() uint64 {
	*c = *c*6364136223846793005 + 1442695040888963407
	x := uint64(*c)
	return x ^ x>>33
}

func (c *chance) below(n int) int { return int((c.next() >> 8) % uint64(n)) }

func (c *chance) is() bool { return c.below(2) == 1 }

// text is of up to so many bytes, of which one in rare is no a.
func (c *chance) text(most, rare int) []byte {
	w := make([]byte, c.below(most+1))
	for i := range w {
		w[i] = 'a'
		if c.below(rare) == 0 {
			w[i] = "b\x00\xff\n"[c.below(4)]
		}
	}
	return w
}

// state is of so many ages, of which few or many are in it.
func (c *chance) state(many int) api.Bits {
	few := 1 + c.below(6)
	s := put(many)
	for age := range many {
		if c.below(few) == 0 {
			s.Words[age/64] |= 1 << (age % 64)
		}
	}
	return s
}

// triggers are up to so many places of a text of that length, in no order, twice the same among them, and such as are none.
func (c *chance) triggers(most, length int) []int {
	var l []int
	for range c.below(most + 1) {
		l = append(l, -2+c.below(length+5))
	}
	return l
}

// ring is of that Most, or less.
func (c *chance) ring(most int) api.Ring {
	r := api.Ring{Class: []api.Class{raw('a'), raw('a', 'b'), raw('a', 0, 255), {}, full, raw('b')}[c.below(6)]}
	r.Most = 1 + c.below(most)
	r.Least = c.below(r.Most + 1)
	return r
}

// rings are such as may be, of all sorts: their sets end within a word, at its end, behind it.
func rings() []api.Ring {
	var l []api.Ring
	for _, most := range []int{1, 2, 3, 5, 62, 63, 64, 65, 126, 127, 128, 191, 500, 999, 1000} {
		for _, least := range []int{0, 1, most / 2, most - 1, most} {
			l = append(l, of("a", least, most), api.Ring{Class: full, Least: least, Most: most}, api.Ring{Least: least, Most: most})
		}
	}
	return l
}

// wrong are rings that Check refuses. But for that they take each byte, so that it is seen if one of them is gone by.
func wrong() []api.Ring {
	var l []api.Ring
	for _, most := range []int{math.MinInt, math.MinInt + 1, -1000, -64, -2, -1, 0, 1001, 1002, 1063, 8191, 8192, 8193, 1 << 20, math.MaxInt - 1, math.MaxInt} {
		for _, least := range []int{math.MinInt, -1, 0, 1, most / 2, most - 1, most, 1000, math.MaxInt} {
			l = append(l, api.Ring{Class: full, Least: least, Most: most})
		}
	}
	for _, most := range []int{1, 2, 63, 64, 999, 1000} {
		for _, least := range []int{math.MinInt, math.MinInt + 1, -1001, -most, -2, -1, most + 1, most + 2, 1001, 8192, math.MaxInt - 1, math.MaxInt} {
			l = append(l, api.Ring{Class: full, Least: least, Most: most})
		}
	}
	return l
}

// wrongStates are those that no ring of so many ages has: those that bits.Check refuses, and those of another N. Most of them have all numbers that they can.
func wrongStates(many int) []api.Bits {
	short, long := all(many), all(many)
	short.Words, long.Words = short.Words[1:], append(long.Words, 1)
	zero := api.Bits{N: many, Words: append(all(many).Words, 0)}
	l := []api.Bits{short, long, zero, all(many - 1), all(many + 1), all(many + 64), {}, {Words: []uint64{}}, all(8192), {N: 8193, Words: slices.Repeat([]uint64{1}, 129)}, {N: many}, {N: -1, Words: all(many).Words}, {N: -many, Words: all(many).Words}, {N: math.MaxInt, Words: all(many).Words}, {N: math.MinInt}}
	if many%64 != 0 {
		over, far := all(many), all(many)
		over.Words[many/64] |= 1 << (many % 64)
		far.Words[many/64] |= 1 << 63
		l = append(l, over, far)
	}
	return l
}

// statesOf are states of so many ages: without and with all, with single ones about the ends of words, with many of no order.
func statesOf(many int) []api.Bits {
	l := []api.Bits{put(many), all(many)}
	for _, age := range []int{0, 1, 62, 63, 64, 65, 127, 128, many - 2, many - 1} {
		if age >= 0 && age < many {
			l = append(l, put(many, age))
		}
	}
	r := chance(3)
	for range 3 {
		l = append(l, r.state(many))
	}
	return l
}
