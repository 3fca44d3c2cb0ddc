package glushkov_test

import (
	"fmt"
	"math"
	"slices"
	"strings"
	"testing"

	"riddle/api"
)

// What the tests hold the package against is made here without a call of the package.

func raw(l ...byte) api.Class {
	var c api.Class
	for _, b := range l {
		c[b/64] |= 1 << (b % 64)
	}
	return c
}

func inClass(c api.Class, b byte) bool { return c[b/64]&(1<<(b%64)) != 0 }

// put is the set of these numbers, word by word.
func put(many int, l ...int) api.Bits {
	s := api.Bits{N: many, Words: make([]uint64, (many+63)/64)}
	for _, n := range l {
		s.Words[n/64] |= 1 << (n % 64)
	}
	return s
}

func in(s api.Bits, n int) bool { return s.Words[n/64]&(1<<(n%64)) != 0 }

func numbers(l []bool) []int {
	var all []int
	for n, is := range l {
		if is {
			all = append(all, n)
		}
	}
	return all
}

// machine is an automaton in tables.
type machine struct {
	classes     []api.Class
	first, last []bool
	follow      [][]bool
	null        bool
}

// blank has so many positions that nothing comes to.
func blank(many int) machine {
	m := machine{make([]api.Class, many), make([]bool, many), make([]bool, many), nil, false}
	for range many {
		m.follow = append(m.follow, make([]bool, many))
	}
	return m
}

func (m machine) nfa() api.Nfa {
	many := len(m.classes)
	n := api.Nfa{Classes: slices.Clone(m.classes), First: put(many, numbers(m.first)...), Last: put(many, numbers(m.last)...), Null: m.null}
	for _, row := range m.follow {
		n.Follow = append(n.Follow, put(many, numbers(row)...))
	}
	return n
}

// beside is what Cat and Alt both have: the classes and Follow of a, then of b.
func (m machine) beside(b machine) machine {
	k := len(m.classes)
	c := blank(k + len(b.classes))
	copy(c.classes, m.classes)
	copy(c.classes[k:], b.classes)
	for p, row := range m.follow {
		copy(c.follow[p], row)
	}
	for p, row := range b.follow {
		copy(c.follow[k+p][k:], row)
	}
	return c
}

// cat, alt and star take the chapter's words as they stand, position by position.
func (m machine) cat(b machine) machine {
	c, k := m.beside(b), len(m.classes)
	for p := range c.classes {
		if p < k {
			c.first[p], c.last[p] = m.first[p], b.null && m.last[p]
		} else {
			c.first[p], c.last[p] = m.null && b.first[p-k], b.last[p-k]
		}
	}
	for p := range m.classes {
		for q := range b.classes {
			if m.last[p] && b.first[q] {
				c.follow[p][k+q] = true
			}
		}
	}
	c.null = m.null && b.null
	return c
}

func (m machine) alt(b machine) machine {
	c, k := m.beside(b), len(m.classes)
	copy(c.first, m.first)
	copy(c.first[k:], b.first)
	copy(c.last, m.last)
	copy(c.last[k:], b.last)
	c.null = m.null || b.null
	return c
}

func (m machine) star() machine {
	c := m.beside(blank(0))
	copy(c.first, m.first)
	copy(c.last, m.last)
	for p := range c.classes {
		for q := range c.classes {
			if m.last[p] && m.first[q] {
				c.follow[p][q] = true
			}
		}
	}
	c.null = true
	return c
}

// equal holds automata against each other number by number and word by word.
func equal(a, b api.Nfa) bool {
	return slices.Equal(a.Classes, b.Classes) && equalSet(a.First, b.First) && equalSet(a.Last, b.Last) && slices.EqualFunc(a.Follow, b.Follow, equalSet) && a.Null == b.Null
}

func equalSet(a, b api.Bits) bool { return a.N == b.N && slices.Equal(a.Words, b.Words) }

func isZero(n api.Nfa) bool {
	return n.Classes == nil && n.First.N == 0 && n.First.Words == nil && n.Last.N == 0 && n.Last.Words == nil && n.Follow == nil && !n.Null
}

// show is an automaton for a report, its first positions if there are many.
func show(n api.Nfa) string {
	var s strings.Builder
	fmt.Fprintf(&s, "{%d positions, %d sets, null %t; first %d %x; last %d %x;", len(n.Classes), len(n.Follow), n.Null, n.First.N, n.First.Words, n.Last.N, n.Last.Words)
	for p := range min(8, len(n.Classes)) {
		fmt.Fprintf(&s, " %x", n.Classes[p])
	}
	for p := range min(8, len(n.Follow)) {
		fmt.Fprintf(&s, " %d: %d %x", p, n.Follow[p].N, n.Follow[p].Words)
	}
	return s.String() + "}"
}

// takes goes by the chapter's words: a position for each byte.
func takes(n api.Nfa, w []byte) bool {
	if len(w) == 0 {
		return n.Null
	}
	at := make([]bool, len(n.Classes))
	for p := range at {
		at[p] = in(n.First, p) && inClass(n.Classes[p], w[0])
	}
	for _, b := range w[1:] {
		next := make([]bool, len(at))
		for _, p := range numbers(at) {
			for q := range next {
				next[q] = next[q] || in(n.Follow[p], q) && inClass(n.Classes[q], b)
			}
		}
		at = next
	}
	for _, p := range numbers(at) {
		if in(n.Last, p) {
			return true
		}
	}
	return false
}

// shape is a tree whose nodes hold their parts.
type shape struct {
	node api.Node // A and B are nothing here
	a, b *shape
}

func aKind(kind int) *shape { return &shape{node: api.Node{Kind: kind}} }

func set(l ...byte) *shape { return &shape{node: api.Node{Kind: api.NdClass, Class: raw(l...)}} }

func pair(kind int, a, b *shape) *shape { return &shape{node: api.Node{Kind: kind}, a: a, b: b} }

// cat and alt join two or more, from the left on.
func cat(first *shape, l ...*shape) *shape {
	for _, s := range l {
		first = pair(api.NdCat, first, s)
	}
	return first
}

func alt(first *shape, l ...*shape) *shape {
	for _, s := range l {
		first = pair(api.NdAlt, first, s)
	}
	return first
}

func rep(a *shape, least, most int) *shape {
	return &shape{node: api.Node{Kind: api.NdRep, Least: least, Most: most}, a: a}
}

func lazy(a *shape, least, most int) *shape {
	s := rep(a, least, most)
	s.node.Lazy = true
	return s
}

func star(a *shape) *shape { return rep(a, 0, -1) }

var (
	empty   = aKind(api.NdEmpty)
	hat     = aKind(api.NdHat)
	dollar  = aKind(api.NdDollar)
	never   = set()
	a, b, c = set('a'), set('b'), set('c')
	ab      = set('a', 'b')
)

// write puts s behind l.
func (s *shape) write(l []api.Node) []api.Node {
	n := s.node
	if s.a != nil {
		l = s.a.write(l)
		n.A = len(l) - 1
	}
	if s.b != nil {
		l = s.b.write(l)
		n.B = len(l) - 1
	}
	return append(l, n)
}

func (s *shape) tree() api.Tree { return api.Tree{Nodes: s.write(nil)} }

// text is a shape as a pattern, for a report.
func (s *shape) text() string {
	switch s.node.Kind {
	case api.NdEmpty:
		return "-"
	case api.NdHat:
		return "^"
	case api.NdDollar:
		return "$"
	case api.NdClass:
		return fmt.Sprintf("%x", s.node.Class)
	case api.NdCat:
		return "(" + s.a.text() + " " + s.b.text() + ")"
	case api.NdAlt:
		return "(" + s.a.text() + "|" + s.b.text() + ")"
	}
	return fmt.Sprintf("%s{%d,%d,%t}", s.a.text(), s.node.Least, s.node.Most, s.node.Lazy)
}

// brief is the text of a shape, cut off where it is long.
func (s *shape) brief() string {
	text := s.text()
	return text[:min(200, len(text))]
}

// classes are those of a plain shape from left to right.
func (s *shape) classes() []api.Class {
	if s == nil {
		return nil
	}
	if s.node.Kind == api.NdClass {
		return []api.Class{s.node.Class}
	}
	return append(s.a.classes(), s.b.classes()...)
}

// machine takes the chapter's words of Of as they stand, of a plain shape without anchors.
func (s *shape) machine(t *testing.T) machine {
	switch s.node.Kind {
	case api.NdEmpty:
		m := blank(0)
		m.null = true
		return m
	case api.NdClass:
		m := blank(1)
		m.classes[0], m.first[0], m.last[0] = s.node.Class, true, true
		return m
	case api.NdCat:
		return s.a.machine(t).cat(s.b.machine(t))
	case api.NdAlt:
		return s.a.machine(t).alt(s.b.machine(t))
	case api.NdRep:
		return s.a.machine(t).star()
	}
	t.Fatalf("a node of kind %d", s.node.Kind)
	return machine{}
}

// each goes through all plain shapes of so many nodes, of these leaves.
func each(nodes int, leaves []*shape, f func(s *shape)) {
	if nodes == 1 {
		for _, s := range leaves {
			f(s)
		}
	}
	if nodes <= 1 {
		return
	}
	each(nodes-1, leaves, func(a *shape) { f(star(a)) })
	for k := range nodes - 1 {
		each(k, leaves, func(a *shape) {
			each(nodes-1-k, leaves, func(b *shape) {
				f(cat(a, b))
				f(alt(a, b))
			})
		})
	}
}

// eachText goes through all texts of a and b of up to so many bytes.
func eachText(most int, f func(w []byte)) {
	for many := range most + 1 {
		for bits := range 1 << many {
			w := make([]byte, many)
			for i := range w {
				w[i] = 'a' + byte(bits>>i&1)
			}
			f(w)
		}
	}
}

// chance makes numbers of no order, always the same ones.
type chance uint64

func (c *chance) next() uint64 {
	*c = *c*6364136223846793005 + 1442695040888963407
	x := uint64(*c)
	return x ^ x>>33
}

func (c *chance) below(n int) int { return int((c.next() >> 8) % uint64(n)) }

func (c *chance) is() bool { return c.below(2) == 1 }

// text is of up to so many bytes, most of them a.
func (c *chance) text(most int) []byte {
	w := make([]byte, c.below(most+1))
	for i := range w {
		w[i] = "aaaabbc"[c.below(7)]
	}
	return w
}

// shape is plain, of just so many nodes.
func (r *chance) shape(nodes int) *shape {
	switch {
	case nodes == 1:
		return []*shape{empty, never, a, a, a, b, b, ab, c}[r.below(9)]
	case nodes == 2 || r.below(5) == 0:
		return star(r.shape(nodes - 1))
	}
	k := 1 + r.below(nodes-2)
	if r.below(3) == 0 {
		return alt(r.shape(k), r.shape(nodes-1-k))
	}
	return cat(r.shape(k), r.shape(nodes-1-k))
}

// machine is of so many positions, of which few or many come first, last and behind each other.
func (c *chance) machine(many int) machine {
	m := blank(many)
	few := 1 + c.below(4)
	for p := range many {
		m.classes[p] = raw(byte(c.below(256)), 'a'+byte(c.below(3)))
		m.first[p], m.last[p] = c.below(few) == 0, c.below(few) == 0
		for q := range many {
			m.follow[p][q] = c.below(2*few) == 0
		}
	}
	m.null = c.is()
	return m
}

// node is any node, and may be none of any tree.
func (c *chance) node() api.Node {
	numbers := []int{math.MinInt, -2, -1, 0, 0, 1, 2, 3, 1000, 1001, math.MaxInt}
	number := func() int { return numbers[c.below(len(numbers))] }
	n := api.Node{Kind: c.below(9)}
	if c.below(3) == 0 {
		n.Class = raw(byte(c.below(256)))
	}
	if c.is() {
		n.A, n.B = number(), number()
	}
	if c.below(3) == 0 {
		n.Least, n.Most, n.Lazy = number(), number(), c.is()
	}
	return n
}

// row is so many of leaf, joined by nodes of a kind, from the left on or from the right.
func row(many, kind int, leaf *shape, left bool) *shape {
	s := leaf
	for range many - 1 {
		if left {
			s = pair(kind, s, leaf)
		} else {
			s = pair(kind, leaf, s)
		}
	}
	return s
}

// pile is a shape in so many stars.
func pile(many int, s *shape) *shape {
	for range many {
		s = star(s)
	}
	return s
}

// great are plain shapes of many nodes and no more than MaxPositions classes, as deep as can be.
func great() []*shape {
	l := []*shape{pile(2047, a), pile(2047, empty), pile(1025, row(512, api.NdAlt, a, true)), pile(513, row(512, api.NdCat, star(a), false))}
	for _, kind := range []int{api.NdCat, api.NdAlt} {
		for _, left := range []bool{true, false} {
			l = append(l, row(512, kind, a, left), row(512, kind, star(ab), left), row(1024, kind, empty, left), row(511, kind, alt(a, empty), left), row(256, kind, star(cat(a, b)), left), row(512, kind, star(star(a)), left))
		}
	}
	return append(l, cat(row(512, api.NdCat, star(a), true), row(256, api.NdCat, empty, true)), alt(row(256, api.NdCat, empty, false), row(512, api.NdCat, star(a), false)))
}

// machines are of all sorts, few positions and many, those of no positions among them.
func machines() []machine {
	null := blank(0)
	null.null = true
	l := []machine{blank(0), null, blank(1), blank(70)}
	r := chance(7)
	for _, many := range []int{1, 1, 1, 2, 2, 2, 3, 3, 4, 5, 8, 31, 32, 33, 63, 64, 65, 100, 127, 128, 129, 192} {
		l = append(l, r.machine(many))
	}
	return l
}

// wrong are automata that may not be, each for another reason; the sets that may be have something in them.
func wrong() []api.Nfa {
	sets := func(many, of int) []api.Bits {
		var l []api.Bits
		for range many {
			l = append(l, put(of, 0))
		}
		return l
	}
	l := []api.Nfa{
		{Classes: make([]api.Class, 2)},
		{Follow: []api.Bits{{}}},
		{First: put(1, 0)},
		{Last: put(1)},
		{First: api.Bits{Words: []uint64{0}}},
		{Last: api.Bits{N: -1}, Null: true},
		{Classes: make([]api.Class, 1), First: put(1), Last: put(1)},
		{Classes: make([]api.Class, 1), First: put(1), Last: put(1), Follow: sets(2, 1)},
		{Classes: make([]api.Class, 3), First: put(3), Last: put(3), Follow: sets(2, 3)},
		{Classes: make([]api.Class, 3), First: put(3), Last: put(3), Follow: sets(4, 3)},
		{Classes: make([]api.Class, 513), First: put(513), Last: put(513), Follow: sets(513, 513)},
	}
	for _, many := range []int{1, 3, 64, 65, 512} {
		for _, s := range wrongSets(many) {
			for _, at := range []int{-2, -1, 0, many / 2, many - 1} {
				n := api.Nfa{Classes: make([]api.Class, many), First: put(many, 0), Last: put(many, many-1), Follow: sets(many, many)}
				*setAt(&n, at) = s
				l = append(l, n)
			}
		}
	}
	return l
}

// wrongSets are sets that no automaton of so many positions has: those that may not be, and those of another N.
func wrongSets(many int) []api.Bits {
	short, long := put(many), put(many)
	short.Words, long.Words = short.Words[1:], append(long.Words, 0)
	l := []api.Bits{short, long, put(many - 1), put(many + 1), put(many+1, many), {}, put(8192), {N: 8193, Words: make([]uint64, 129)}, {N: many}, {N: -1}, {N: -many, Words: put(many).Words}, {N: math.MaxInt, Words: put(many).Words}, {N: math.MinInt}}
	if many%64 != 0 {
		over := put(many)
		over.Words[many/64] |= 1 << (many % 64)
		far := put(many)
		far.Words[many/64] |= 1 << 63
		l = append(l, over, far)
	}
	return l
}

// setAt is the place of First (-2), Last (-1) or that one of Follow.
func setAt(n *api.Nfa, at int) *api.Bits {
	switch at {
	case -2:
		return &n.First
	case -1:
		return &n.Last
	}
	return &n.Follow[at]
}
