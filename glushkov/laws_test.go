package glushkov_test

import (
	"regexp"
	"slices"
	"testing"

	"riddle/api"
	"riddle/glushkov"
	"riddle/meaning"
	"riddle/tree"
)

// of is a plain shape's automaton.
func of(t *testing.T, s *shape) api.Nfa {
	t.Helper()
	n, e := glushkov.Of(s.tree())
	if e != api.OK {
		t.Fatal(s.brief(), e)
	}
	return n
}

// P10.4

// meansIt fails unless the automaton takes w just if the tree means it; it answers whether that is so.
func meansIt(t *testing.T, s *shape, x api.Tree, n api.Nfa, w []byte) bool {
	t.Helper()
	want := meaning.Match(x, false, w, 0, len(w))
	if takes(n, w) != want {
		t.Fatalf("%s takes %q: %t", s.brief(), w, !want)
	}
	return want
}

func TestItIsTheMeaningOfSmallShapes(t *testing.T) {
	shapes, meant, others := 0, 0, 0
	for nodes := 1; nodes <= 6; nodes++ {
		each(nodes, []*shape{empty, a, b, never}, func(s *shape) {
			x, n := s.tree(), of(t, s)
			shapes++
			eachText(4, func(w []byte) {
				if meansIt(t, s, x, n, w) {
					meant++
				} else {
					others++
				}
			})
		})
	}
	if shapes < 2000 || meant < 5000 || others < 5000 {
		t.Error(shapes, meant, others)
	}
}

func TestItIsTheMeaningOfShapes(t *testing.T) {
	r := chance(41)
	meant, others := 0, 0
	for range 2500 {
		s := r.shape(1 + r.below(40))
		x, n := s.tree(), of(t, s)
		for range 12 {
			if meansIt(t, s, x, n, r.text(9)) {
				meant++
			} else {
				others++
			}
		}
		meansIt(t, s, x, n, nil)
	}
	if meant < 3000 || others < 3000 {
		t.Error(meant, others)
	}
}

func TestItIsTheMeaningOfGreatShapes(t *testing.T) {
	for _, s := range great() {
		x, n := s.tree(), of(t, s)
		for _, w := range []string{"", "a", "b", "aa", "ab", "ababab", "aabbaa"} {
			meansIt(t, s, x, n, []byte(w))
		}
	}
	// As long as there are positions, one less and one more.
	n := of(t, row(512, api.NdCat, a, false))
	for many := 510; many < 515; many++ {
		if takes(n, slices.Repeat([]byte("a"), many)) != (many == 512) {
			t.Errorf("%d bytes", many)
		}
	}
}

// Patterns, held against those of another reader of them.
func TestItIsTheMeaningOfPatterns(t *testing.T) {
	for _, p := range []string{"", "a", "ab", "a|b", "a*", "a+", "a?b", "a{2,4}", "(?:ab|b)*", "(?:a|b)*abb", "(?:a?b?){2}", "[ab]{3}", "(?:a*b*)*", "a*|b*", "(?:|a)b(?:|a)", "(?:aa|aaa)*", "(?:(?:a|ab)(?:b|))*", "[^a]+", ".{1,3}"} {
		x := read(t, p)
		n, e := glushkov.Of(x)
		if e != api.OK {
			t.Fatal(p, e)
		}
		other := regexp.MustCompile(`^(?:` + p + `)$`)
		eachText(7, func(w []byte) {
			want := other.Match(w)
			if takes(n, w) != want || meaning.Match(x, false, w, 0, len(w)) != want {
				t.Fatalf("%s in %q: %t", p, w, !want)
			}
		})
	}
}

// The calls of P10.2 take what they say, of automata that no tree has, too.
func TestWhatJoinsTake(t *testing.T) {
	r := chance(42)
	some := func() machine {
		m := r.machine(r.below(4))
		for p := range m.classes {
			m.classes[p] = []api.Class{raw('a'), raw('b'), raw('a', 'b'), {}}[r.below(4)]
		}
		return m
	}
	many := 0
	for range 300 {
		x, y := some().nfa(), some().nfa()
		both, _ := glushkov.Alt(x, y)
		row, _ := glushkov.Cat(x, y)
		again, _ := glushkov.Star(x)
		eachText(5, func(w []byte) {
			cut, parts := false, make([]bool, len(w)+1)
			parts[0] = true
			for k := range len(w) + 1 {
				cut = cut || takes(x, w[:k]) && takes(y, w[k:])
				for from := range k {
					parts[k] = parts[k] || parts[from] && takes(x, w[from:k])
				}
			}
			if takes(both, w) != (takes(x, w) || takes(y, w)) {
				t.Fatalf("Alt of %s, %s: %q", show(x), show(y), w)
			}
			if takes(row, w) != cut {
				t.Fatalf("Cat of %s, %s: %q", show(x), show(y), w)
			}
			if takes(again, w) != parts[len(w)] {
				t.Fatalf("Star of %s: %q", show(x), w)
			}
			if cut {
				many++
			}
		})
	}
	if many < 1000 {
		t.Error(many)
	}
}

// P10.5

func mayBe(t *testing.T, what string, n api.Nfa, e api.Errno) {
	t.Helper()
	if e != api.OK || glushkov.Check(n) != api.OK {
		t.Fatalf("%s: error %d, %s", what, e, show(n))
	}
}

func TestWhatIsMadeMayBe(t *testing.T) {
	mayBe(t, "Empty", glushkov.Empty(), api.OK)
	mayBe(t, "Leaf", glushkov.Leaf(raw('a')), api.OK)
	mayBe(t, "Leaf", glushkov.Leaf(api.Class{}), api.OK)
	l := machines()
	for _, p := range l {
		for _, q := range l {
			n, e := glushkov.Cat(p.nfa(), q.nfa())
			mayBe(t, "Cat", n, e)
			n, e = glushkov.Alt(p.nfa(), q.nfa())
			mayBe(t, "Alt", n, e)
		}
		n, e := glushkov.Star(p.nfa())
		mayBe(t, "Star", n, e)
		mayBe(t, "Clone", glushkov.Clone(p.nfa()), api.OK)
	}
}

// staysRight fails unless the automaton of s has the positions of its classes and takes the empty text just if s means it.
func staysRight(t *testing.T, s *shape) {
	t.Helper()
	x := s.tree()
	n, e := glushkov.Of(x)
	mayBe(t, s.brief(), n, e)
	if len(n.Classes) != tree.Weight(x) || !slices.Equal(n.Classes, s.classes()) {
		t.Fatalf("%s: %s, of weight %d", s.brief(), show(n), tree.Weight(x))
	}
	if n.Null != meaning.Empty(x) {
		t.Fatalf("%s: Null is %t", s.brief(), n.Null)
	}
}

func TestItStaysRight(t *testing.T) {
	null := 0
	count := func(s *shape) {
		staysRight(t, s)
		if of(t, s).Null {
			null++
		}
	}
	for nodes := 1; nodes <= 6; nodes++ {
		each(nodes, []*shape{empty, a, b, never}, count)
	}
	r := chance(43)
	for range 1500 {
		count(r.shape(1 + r.below(120)))
	}
	for _, s := range great() {
		count(s)
	}
	if null < 1000 {
		t.Error(null)
	}
}

// P10.6

func same(t *testing.T, what string, x, y api.Nfa) {
	t.Helper()
	if !glushkov.Same(x, y) || !equal(x, y) {
		t.Fatalf("%s: %s, %s", what, show(x), show(y))
	}
}

// sound answers the automaton that a call made without an error.
func sound(t *testing.T) func(n api.Nfa, e api.Errno) api.Nfa {
	return func(n api.Nfa, e api.Errno) api.Nfa {
		t.Helper()
		if e != api.OK {
			t.Fatal(e)
		}
		return n
	}
}

func TestAssociative(t *testing.T) {
	var l []api.Nfa
	for i, m := range machines() {
		if i < 14 || len(m.classes) == 65 || len(m.classes) == 127 {
			l = append(l, m.nfa())
		}
	}
	ok := sound(t)
	for name, j := range both() {
		for _, p := range l {
			for _, q := range l {
				for _, r := range l {
					same(t, name, ok(j.call(ok(j.call(p, q)), r)), ok(j.call(p, ok(j.call(q, r)))))
				}
			}
		}
	}
}

// What is too much is so, however it is joined.
func TestAssociativeAtMaxPositions(t *testing.T) {
	r := chance(44)
	for _, x := range [][3]int{{200, 200, 112}, {200, 200, 113}, {1, 511, 0}, {0, 512, 1}, {510, 1, 1}, {1, 1, 511}, {256, 1, 256}} {
		p, q, s := r.machine(x[0]).nfa(), r.machine(x[1]).nfa(), r.machine(x[2]).nfa()
		for name, j := range both() {
			left, e := j.call(p, q)
			if e == api.OK {
				left, e = j.call(left, s)
			}
			right, f := j.call(q, s)
			if f == api.OK {
				right, f = j.call(p, right)
			}
			want := api.OK
			if x[0]+x[1]+x[2] > 512 {
				want = api.ErrPositions
			}
			if e != want || f != want {
				t.Fatal(name, x, e, f)
			}
			same(t, name, left, right)
		}
	}
}

func TestEmptyIsNothingInACat(t *testing.T) {
	ok := sound(t)
	l := []api.Nfa{{}, glushkov.Empty(), glushkov.Leaf(api.Class{}), blank(512).nfa()}
	for _, m := range machines() {
		l = append(l, m.nfa())
	}
	for _, n := range l {
		same(t, "Empty ahead", ok(glushkov.Cat(glushkov.Empty(), n)), n)
		same(t, "Empty behind", ok(glushkov.Cat(n, glushkov.Empty())), n)
	}
}

func TestStarOfStarIsStar(t *testing.T) {
	ok := sound(t)
	r := chance(45)
	l := append(machines(), r.machine(512))
	for _, m := range l {
		once := ok(glushkov.Star(m.nfa()))
		same(t, "Star of Star", ok(glushkov.Star(once)), once)
	}
}

// The same laws, of trees.
func TestAlgebraOfTrees(t *testing.T) {
	r := chance(46)
	for range 800 {
		x, y, z := r.shape(1+r.below(20)), r.shape(1+r.below(20)), r.shape(1+r.below(20))
		same(t, "Cat", of(t, cat(cat(x, y), z)), of(t, cat(x, cat(y, z))))
		same(t, "Alt", of(t, alt(alt(x, y), z)), of(t, alt(x, alt(y, z))))
		same(t, "Empty", of(t, cat(empty, x)), of(t, x))
		same(t, "Empty", of(t, cat(x, empty)), of(t, x))
		same(t, "Star", of(t, star(star(x))), of(t, star(x)))
	}
}
