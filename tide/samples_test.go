package tide_test

import (
	"fmt"
	"math"
	"slices"
	"testing"

	"riddle/api"
)

// What the tests hold the package against is made here without a call of the package.

func raw(l ...byte) api.Class {
	var c api.Class
	for _, b := range l {
		c[b/64] |= 1 << (b % 64)
	}
	return c
}

var full = api.Class{math.MaxUint64, math.MaxUint64, math.MaxUint64, math.MaxUint64}

func inClass(c api.Class, b byte) bool { return c[b/64]&(1<<(b%64)) != 0 }

// of is the tide of these bytes.
func of(letters string, least int) api.Tide {
	return api.Tide{Class: raw([]byte(letters)...), Least: least}
}

// old is the state of an age.
func old(age int) api.TideState { return api.TideState{Age: age} }

func show(t api.Tide) string { return fmt.Sprintf("{%x, %d on}", t.Class, t.Least) }

// isRun fails unless what Run answered is this state and these places.
func isRun(t *testing.T, what string, s api.TideState, l []int, want api.TideState, places []int) {
	t.Helper()
	if s != want || !slices.Equal(l, places) {
		t.Fatalf("%s: %v %v, not %v %v", what, s, l, want, places)
	}
}

// may is whether a tide is such as the chapter lets it be.
func may(t api.Tide) bool {
	return t.Class[0]|t.Class[1]|t.Class[2]|t.Class[3] != 0 && 0 <= t.Least && t.Least <= 1000
}

// taken is the tide that the calls take t as.
func taken(t api.Tide) api.Tide {
	if !may(t) {
		return api.Tide{Class: full}
	}
	return t
}

// ageOf is the age of s as the calls take it for t.
func ageOf(t api.Tide, s api.TideState) int {
	if s.Age < -1 || s.Age > taken(t).Least {
		return -1
	}
	return s.Age
}

// step takes the chapter's words as they stand.
func step(t api.Tide, s api.TideState, b byte) api.TideState {
	age := ageOf(t, s)
	t = taken(t)
	switch {
	case age == -1 || !inClass(t.Class, b):
		return old(-1)
	case age+1 > t.Least:
		return old(t.Least)
	}
	return old(age + 1)
}

func trigger(t api.Tide, s api.TideState) api.TideState {
	if age := ageOf(t, s); age != -1 {
		return old(age)
	}
	return old(0)
}

func ready(t api.Tide, s api.TideState) bool { return ageOf(t, s) == taken(t).Least }

// run takes the chapter's words as they stand, place by place.
func run(t api.Tide, s api.TideState, w []byte, triggers []int) (api.TideState, []int) {
	var l []int
	s = old(ageOf(t, s))
	for place := 0; ; place++ {
		if slices.Contains(triggers, place) {
			s = trigger(t, s)
		}
		if ready(t, s) {
			l = append(l, place)
		}
		if place == len(w) {
			return s, l
		}
		s = step(t, s, w[place])
	}
}

// repeats are the places of w up to which there is the repeat from some trigger on, all pairs tried one by one.
func repeats(t api.Tide, w []byte, triggers []int) []int {
	t = taken(t)
	var l []int
	for j := range len(w) + 1 {
		if slices.ContainsFunc(triggers, func(i int) bool { return isRepeat(t, w, i, j) }) {
			l = append(l, j)
		}
	}
	return l
}

func isRepeat(t api.Tide, w []byte, i, j int) bool {
	if i < 0 || i > j || j-i < t.Least {
		return false
	}
	return !slices.ContainsFunc(w[i:j], func(b byte) bool { return !inClass(t.Class, b) })
}

// eachText goes through all texts of these bytes, up to so many of them.
func eachText(letters string, most int, f func(w []byte)) {
	texts := [][]byte{nil}
	for range most + 1 {
		var longer [][]byte
		for _, w := range texts {
			f(w)
			for i := range len(letters) {
				longer = append(longer, append(slices.Clone(w), letters[i]))
			}
		}
		texts = longer
	}
}

// eachChoice goes through all choices of the places from 0 to last.
func eachChoice(last int, f func(places []int)) {
	for choice := range 1 << (last + 1) {
		var l []int
		for place := range last + 1 {
			if choice>>place&1 == 1 {
				l = append(l, place)
			}
		}
		f(l)
	}
}

func upTo(many int) []int {
	var l []int
	for n := range many {
		l = append(l, n)
	}
	return l
}

// chance makes numbers of no order, always the same ones.
type chance uint64

func (c *chance) next() uint64 {
	*c = *c*6364136223846793005 + 1442695040888963407
	x := uint64(*c)
	return x ^ x>>33
}

func (c *chance) below(n int) int { return int((c.next() >> 8) % uint64(n)) }

func (c *chance) is() bool { return c.below(2) == 1 }

// text is of up to so many bytes, of which one in rare is no a.
func (c *chance) text(most, rare int) []byte {
	w := make([]byte, c.below(most+1))
	for i := range w {
		w[i] = 'a'
		if c.below(rare) == 0 {
			w[i] = "b\x00\xff\n"[c.below(4)]
		}
	}
	return w
}

// triggers are up to so many places of a text of that length, in no order, twice the same among them, and such as are none.
func (c *chance) triggers(most, length int) []int {
	var l []int
	for range c.below(most + 1) {
		l = append(l, -2+c.below(length+5))
	}
	return l
}

// tide is of that Least, or less.
func (c *chance) tide(least int) api.Tide {
	return api.Tide{Class: []api.Class{raw('a'), raw('a', 'b'), raw('a', 0, 255), full, raw('b')}[c.below(5)], Least: c.below(least + 1)}
}

// state is one of a tide's.
func (c *chance) state(t api.Tide) api.TideState { return old(-1 + c.below(t.Least+2)) }

// many goes through tides, states, texts and triggers of no order; tides and states that may not be are among them.
func many(f func(t api.Tide, s api.TideState, w []byte, triggers []int)) {
	c := chance(21)
	for i := range 4000 {
		least := []int{0, 3, 8, 70}[i%4]
		x, w := c.tide(least), c.text(2*least+6, 2*least+2)
		s := c.state(x)
		switch c.below(20) {
		case 0:
			x.Least = []int{-1, 1001}[c.below(2)]
		case 1:
			x.Class = api.Class{}
		case 2:
			s.Age = []int{-2, x.Least + 1}[c.below(2)]
		}
		f(x, s, w, c.triggers(5, len(w)))
	}
}

// tides are such as may be, of all sorts.
func tides() []api.Tide {
	var l []api.Tide
	for _, least := range []int{0, 1, 2, 3, 5, 63, 64, 65, 500, 999, 1000} {
		for _, c := range []api.Class{raw('a'), raw(0), raw(255), raw('a', 0, 255), full} {
			l = append(l, api.Tide{Class: c, Least: least})
		}
	}
	return l
}

// wrong are tides that Check refuses: by their Least alone, by their Class alone, by both.
func wrong() []api.Tide {
	var l []api.Tide
	for _, least := range []int{math.MinInt, math.MinInt + 1, -1001, -1000, -2, -1, 1001, 1002, 1 << 20, math.MaxInt - 1, math.MaxInt} {
		l = append(l, of("a", least), api.Tide{Class: full, Least: least}, api.Tide{Least: least})
	}
	for _, least := range []int{0, 1, 2, 500, 999, 1000} {
		l = append(l, api.Tide{Least: least})
	}
	return l
}

// wrongStates are those that a tide of that Least cannot come to.
func wrongStates(least int) []api.TideState {
	return []api.TideState{old(math.MinInt), old(math.MinInt + 1), old(-1001), old(-3), old(-2), old(least + 1), old(least + 2), old(least + 64), old(1001), old(math.MaxInt - 1), old(math.MaxInt)}
}
