package tree_test

import (
	"math/bits"
	"testing"

	"riddle/api"
	"riddle/tree"
)

// P5.3

// measures fails unless s has these widths and that weight.
func measures(t *testing.T, s *shape, least, most, weight int) {
	t.Helper()
	a, b := tree.Widths(s.tree())
	if w := tree.Weight(s.tree()); a != least || b != most || w != weight {
		t.Errorf("%d to %d, weight %d; not %d to %d, weight %d", a, b, w, least, most, weight)
	}
}

func TestMeasuresOfLeaves(t *testing.T) {
	measures(t, nothing, 0, 0, 0)
	measures(t, hat, 0, 0, 0)
	measures(t, dollar, 0, 0, 0)
	measures(t, aClass('a'), 1, 1, 1)
	measures(t, aClass('a', 'b', 255), 1, 1, 1)
	measures(t, aClass(), 1, 1, 1)
}

func TestMeasuresOfJoins(t *testing.T) {
	a, three, many := aClass('a'), aRep(aClass('b'), 3, 5), aRep(aClass('c'), 2, -1)
	measures(t, aCat(a, a), 2, 2, 2)
	measures(t, aCat(a, three), 4, 6, 6)
	measures(t, aCat(three, nothing), 3, 5, 5)
	measures(t, aCat(hat, a), 1, 1, 1)
	measures(t, aCat(many, a), 3, -1, 4)
	measures(t, aCat(a, many), 3, -1, 4)
	measures(t, aCat(many, many), 4, -1, 6)
	measures(t, aCat(nothing, many), 2, -1, 3)
	measures(t, anAlt(a, three), 1, 5, 6)
	measures(t, anAlt(three, a), 1, 5, 6)
	measures(t, anAlt(nothing, three), 0, 5, 5)
	measures(t, anAlt(many, a), 1, -1, 4)
	measures(t, anAlt(three, many), 2, -1, 8)
	measures(t, anAlt(many, many), 2, -1, 6)
	measures(t, anAlt(nothing, dollar), 0, 0, 0)
}

func TestMeasuresOfRepeats(t *testing.T) {
	a, three := aClass('a'), aRep(aClass('b'), 3, 5)
	for _, s := range []func(s *shape, least, most int) *shape{aRep, aLazy} {
		measures(t, s(a, 0, -1), 0, -1, 1)
		measures(t, s(a, 1, -1), 1, -1, 2)
		measures(t, s(a, 1000, -1), 1000, -1, 1001)
		measures(t, s(a, 0, 1), 0, 1, 1)
		measures(t, s(a, 1, 1), 1, 1, 1)
		measures(t, s(a, 0, 1000), 0, 1000, 1000)
		measures(t, s(a, 1000, 1000), 1000, 1000, 1000)
		measures(t, s(three, 2, 4), 6, 20, 20)
		measures(t, s(three, 2, -1), 6, -1, 15)
	}
}

// Nought is nought, even times without end.
func TestMeasuresWithNought(t *testing.T) {
	a, many := aClass('a'), aRep(aClass('a'), 7, -1)
	measures(t, aRep(a, 0, 0), 0, 0, 0)
	measures(t, aRep(many, 0, 0), 0, 0, 0)
	measures(t, aRep(nothing, 0, -1), 0, 0, 0)
	measures(t, aRep(nothing, 1000, -1), 0, 0, 0)
	measures(t, aRep(nothing, 1000, 1000), 0, 0, 0)
	measures(t, aRep(hat, 3, -1), 0, 0, 0)
	measures(t, aRep(aRep(a, 0, 0), 5, -1), 0, 0, 0)
	measures(t, aRep(anAlt(nothing, aRep(many, 0, 0)), 5, -1), 0, 0, 0)
	measures(t, aRep(many, 0, 3), 0, -1, 24)
	measures(t, aRep(many, 3, 3), 21, -1, 24)
	measures(t, aRep(many, 0, 1), 0, -1, 8)
	measures(t, aRep(many, 2, -1), 14, -1, 24)
	measures(t, aRep(anAlt(nothing, a), 5, 9), 0, 9, 9)
	measures(t, aRep(anAlt(nothing, a), 5, -1), 0, -1, 6)
	measures(t, aCat(aRep(many, 0, 0), a), 1, 1, 1)
	measures(t, anAlt(aRep(many, 0, 0), a), 0, 1, 1)
}

// exactly is a shape of just so many bytes, each a class.
func exactly(n int) *shape {
	switch {
	case n == 0:
		return nothing
	case n == 1:
		return aClass('a')
	case n <= 1000:
		return aRep(aClass('a'), n, n)
	}
	return aCat(aRep(exactly(n/1000), 1000, 1000), exactly(n%1000))
}

func TestMeasuresAtMaxWidth(t *testing.T) {
	const top = api.MaxWidth
	for _, n := range []int{1000, 1001, top / 2, top - 1, top} {
		measures(t, exactly(n), n, n, n)
		measures(t, anAlt(exactly(n), nothing), 0, n, n)
		measures(t, aCat(exactly(n), nothing), n, n, n)
	}
	measures(t, exactly(top+1), top, top, top)
	measures(t, exactly(top+2000), top, top, top)
	measures(t, exactly(1<<40), top, top, top)
	measures(t, aCat(exactly(top-1), aClass('a')), top, top, top)
	measures(t, aCat(aClass('a'), exactly(top)), top, top, top)
	measures(t, aCat(exactly(top), exactly(top)), top, top, top)
	measures(t, anAlt(exactly(top-1), aClass('a')), 1, top-1, top)
	measures(t, anAlt(exactly(top), exactly(top)), top, top, top)
	measures(t, anAlt(exactly(top+5), exactly(7)), 7, top, top)
	measures(t, aRep(exactly(top/2), 1, 2), top/2, top, top)
	measures(t, aRep(exactly(top/2), 2, 2), top, top, top)
	measures(t, aRep(exactly(top/2+1), 1, 2), top/2+1, top, top)
	measures(t, aRep(exactly(top), 1, 1), top, top, top)
	measures(t, aRep(exactly(top), 0, 1000), 0, top, top)
	measures(t, aRep(exactly(top), 0, 0), 0, 0, 0)
	measures(t, aRep(exactly(top), 0, -1), 0, -1, top)
	measures(t, aRep(exactly(top/2), 1, -1), top/2, -1, top)
	measures(t, aRep(exactly(top-1), 0, -1), 0, -1, top-1)
	measures(t, aRep(exactly(top), 1000, -1), top, -1, top)
	measures(t, aCat(exactly(top), aRep(aClass('a'), 0, -1)), top, -1, top)
	measures(t, aRep(exactly(top/1000), 1000, 1000), top/1000*1000, top/1000*1000, top/1000*1000)
	measures(t, aRep(exactly(top/1000+1), 1000, 1000), top, top, top)
}

func TestMeasuresOfPiles(t *testing.T) {
	const top = api.MaxWidth
	measures(t, pile(2047, 1, 1), 1, 1, 1)
	measures(t, pile(2047, 0, -1), 0, -1, 1)
	measures(t, pile(2047, 1, -1), 1, -1, top)
	measures(t, pile(29, 1, -1), 1, -1, 1<<29)
	measures(t, pile(30, 1, -1), 1, -1, top)
	measures(t, pile(31, 1, -1), 1, -1, top)
	measures(t, pile(30, 1, 2), 1, top, top)
	measures(t, pile(29, 2, 2), 1<<29, 1<<29, 1<<29)
	measures(t, pile(2047, 2, 2), top, top, top)
	measures(t, pile(2047, 1000, 1000), top, top, top)
	measures(t, pile(2047, 1000, -1), top, -1, top)
	measures(t, pile(2047, 0, 0), 0, 0, 0)
	measures(t, pile(2047, 0, 1000), 0, top, top)
	measures(t, aRep(pile(2046, 1000, 1000), 0, 0), 0, 0, 0)
}

func TestMeasuresOfRows(t *testing.T) {
	for _, left := range []bool{false, true} {
		measures(t, row(1024, api.NdCat, left), 1024, 1024, 1024)
		measures(t, row(1024, api.NdAlt, left), 1, 1, 1024)
		measures(t, aRep(row(1024, api.NdCat, left), 2, 3), 2048, 3072, 3072)
	}
}

func TestMeasuresOfWhatMayNotBe(t *testing.T) {
	for _, x := range refused() {
		a, b := tree.Widths(x)
		if w := tree.Weight(x); a != 0 || b != 0 || w != 0 {
			t.Errorf("%v: %d to %d, weight %d", x, a, b, w)
		}
	}
}

// Where an anchor cannot stand it counts for nothing, too.
func TestMeasuresOfWrongAnchors(t *testing.T) {
	measures(t, aCat(aClass('a'), hat), 1, 1, 1)
	measures(t, aRep(aCat(dollar, aClass('a')), 2, 5), 2, 5, 5)
}

func TestMeasuresOfShapes(t *testing.T) {
	for _, x := range trees() {
		s := taken(x)
		least, most := s.widths()
		a, b := tree.Widths(x)
		if w := tree.Weight(x); a != told(least) || b != told(most) || w != told(s.weight()) {
			t.Fatalf("%v: %d to %d, weight %d; not %v to %v, %v", x, a, b, w, least, most, s.weight())
		}
	}
}

// The widths are those of the texts that there are, and the weight is what one counts when all is written out.
func TestMeasuresOfTexts(t *testing.T) {
	endless, closed := 0, 0
	for nodes := range 6 {
		each(nodes, func(s *shape) {
			least, most := tree.Widths(s.tree())
			all := s.lengths()
			if least != bits.TrailingZeros64(all) {
				t.Fatalf("%v: %d at least, of %b", s.tree(), least, all)
			}
			if top := bits.Len64(all) - 1; top < 32 && most != top || top >= 32 && most != -1 && most < 32 {
				t.Fatalf("%v: %d at most, of %b", s.tree(), most, all)
			}
			if most == -1 {
				endless++
			} else {
				closed++
			}
			if w := tree.Weight(s.tree()); w != s.written() {
				t.Fatalf("%v: weight %d, not %d", s.tree(), w, s.written())
			}
		})
	}
	if endless < 1000 || closed < 1000 {
		t.Errorf("%d without end, %d others", endless, closed)
	}
}

// written is how many classes there are when each repeat is written out as its parts one by one.
func (s *shape) written() int {
	n := 0
	switch s.node.Kind {
	case api.NdClass:
		n++
	case api.NdCat, api.NdAlt:
		n = s.a.written() + s.b.written()
	case api.NdRep:
		for range s.node.Least {
			n += s.a.written()
		}
		for range s.node.Most - s.node.Least {
			n += s.a.written()
		}
		if s.node.Most < 0 {
			n += s.a.written()
		}
	}
	return n
}
