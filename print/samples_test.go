package print_test

import (
	"fmt"
	"math"
	"slices"
	"strings"
	"testing"

	"riddle/api"
	"riddle/print"
)

// What the tests hold the package against is made here without a call of the package.

func raw(l ...byte) api.Class {
	var c api.Class
	for _, b := range l {
		c[b/64] |= 1 << (b % 64)
	}
	return c
}

func has(c api.Class, b int) bool { return b < 256 && c[b/64]>>(b%64)&1 == 1 }

// all is the class of the bytes from lo to hi.
func all(lo, hi int) api.Class {
	var c api.Class
	for b := lo; b <= hi; b++ {
		c[b/64] |= 1 << (b % 64)
	}
	return c
}

// every is the class of runs of so many bytes, one at each step.
func every(step, many int) api.Class {
	var c api.Class
	for b := range 256 {
		if b%step < many {
			c[b/64] |= 1 << (b % 64)
		}
	}
	return c
}

var noNewline = api.Class{^uint64(0) &^ (1 << 10), ^uint64(0), ^uint64(0), ^uint64(0)}

// shape is a tree whose nodes hold their parts.
type shape struct {
	node api.Node // A and B are nothing here
	a, b *shape
}

func aKind(kind int) *shape { return &shape{node: api.Node{Kind: kind}} }

func set(c api.Class) *shape { return &shape{node: api.Node{Kind: api.NdClass, Class: c}} }

func one(b byte) *shape { return set(raw(b)) }

func pair(kind int, a, b *shape) *shape { return &shape{node: api.Node{Kind: kind}, a: a, b: b} }

func cat(a, b *shape) *shape { return pair(api.NdCat, a, b) }

func alt(a, b *shape) *shape { return pair(api.NdAlt, a, b) }

func rep(a *shape, least, most int) *shape {
	return &shape{node: api.Node{Kind: api.NdRep, Least: least, Most: most}, a: a}
}

func lazy(a *shape, least, most int) *shape {
	s := rep(a, least, most)
	s.node.Lazy = true
	return s
}

var (
	empty   = aKind(api.NdEmpty)
	hat     = aKind(api.NdHat)
	dollar  = aKind(api.NdDollar)
	never   = aKind(api.NdClass)
	a, b, c = one('a'), one('b'), one('c')
)

// write puts s behind l.
func (s *shape) write(l []api.Node) []api.Node {
	n := s.node
	if s.a != nil {
		l = s.a.write(l)
		n.A = len(l) - 1
	}
	if s.b != nil {
		l = s.b.write(l)
		n.B = len(l) - 1
	}
	return append(l, n)
}

func (s *shape) tree() api.Tree { return api.Tree{Nodes: s.write(nil)} }

// text is what the pattern must be.
func (s *shape) text() string {
	var w strings.Builder
	s.put(&w)
	return w.String()
}

func (s *shape) put(w *strings.Builder) {
	switch s.node.Kind {
	case api.NdClass:
		w.WriteString(classText(s.node.Class))
	case api.NdHat:
		w.WriteString("^")
	case api.NdDollar:
		w.WriteString("$")
	case api.NdAlt:
		s.a.put(w)
		w.WriteString("|")
		s.b.putOr(w, api.NdAlt)
	case api.NdCat:
		s.a.putOr(w, api.NdAlt, api.NdEmpty)
		s.b.putOr(w, api.NdAlt, api.NdEmpty, api.NdCat)
	case api.NdRep:
		s.a.putOr(w, api.NdAlt, api.NdCat, api.NdRep, api.NdEmpty)
		w.WriteString(boundsText(s.node))
	}
}

// putOr puts the text, of one of these kinds in a group.
func (s *shape) putOr(w *strings.Builder, kinds ...int) {
	if !slices.Contains(kinds, s.node.Kind) {
		s.put(w)
		return
	}
	w.WriteString("(?:")
	s.put(w)
	w.WriteString(")")
}

func boundsText(n api.Node) string {
	text := fmt.Sprintf("{%d,%d}", n.Least, n.Most)
	switch {
	case n.Most == -1:
		text = fmt.Sprintf("{%d,}", n.Least)
	case n.Most == n.Least:
		text = fmt.Sprintf("{%d}", n.Least)
	}
	short := map[string]string{"{0,}": "*", "{1,}": "+", "{0,1}": "?"}
	if s, is := short[text]; is {
		text = s
	}
	if n.Lazy {
		text += "?"
	}
	return text
}

func byteText(b int, special, escape string) string {
	switch {
	case b < 33 || b > 126 || strings.Contains(special, string(rune(b))) && escape == "":
		return fmt.Sprintf(`\x%02x`, b)
	case strings.Contains(special, string(rune(b))):
		return escape + string(rune(b))
	}
	return string(rune(b))
}

func classText(set api.Class) string {
	var l []int
	for b := range 256 {
		if has(set, b) {
			l = append(l, b)
		}
	}
	if len(l) == 1 {
		return byteText(l[0], `.[](){}|*+?^$\`, `\`)
	}
	text := "["
	for _, b := range l {
		within := has(set, b+1) && b > 0 && has(set, b-1)
		if within && text[len(text)-1] != '-' {
			text += "-"
		}
		if !within {
			text += byteText(b, `][\^-`, "")
		}
	}
	return text + "]"
}

// each goes through all shapes of so many nodes, of these leaves.
func each(nodes int, leaves []*shape, f func(s *shape)) {
	if nodes == 1 {
		for _, s := range leaves {
			f(s)
		}
	}
	if nodes <= 1 {
		return
	}
	each(nodes-1, leaves, func(a *shape) {
		f(rep(a, 0, -1))
		f(lazy(a, 0, -1))
		f(rep(a, 2, 2))
	})
	for k := range nodes - 1 {
		each(k, leaves, func(a *shape) {
			each(nodes-1-k, leaves, func(b *shape) {
				f(cat(a, b))
				f(alt(a, b))
			})
		})
	}
}

// chance makes numbers of no order, always the same ones.
type chance uint64

func (c *chance) next() uint64 {
	*c = *c*6364136223846793005 + 1442695040888963407
	x := uint64(*c)
	return x ^ x>>33
}

func (c *chance) below(n int) int { return int((c.next() >> 8) % uint64(n)) }

func (c *chance) is() bool { return c.below(2) == 1 }

func (c *chance) class() api.Class {
	switch c.below(6) {
	case 0:
		return noNewline
	case 1:
		return every(1+c.below(9), 1+c.below(4))
	case 2:
		lo := c.below(256)
		return all(lo, min(255, lo+c.below(5)))
	}
	return raw(byte(c.below(256)))
}

// shape is of just so many nodes, with anchors where they may stand.
func (c *chance) shape(nodes int, hatMay, dollarMay bool) *shape {
	switch {
	case nodes == 1 && hatMay && c.below(4) == 0:
		return hat
	case nodes == 1 && dollarMay && c.below(4) == 0:
		return dollar
	case nodes == 1 && c.below(5) == 0:
		return empty
	case nodes == 1:
		return set(c.class())
	case nodes == 2 || c.below(5) == 0:
		return c.repeat(c.shape(nodes-1, false, false))
	}
	k := 1 + c.below(nodes-2)
	if c.is() {
		return alt(c.shape(k, hatMay, dollarMay), c.shape(nodes-1-k, hatMay, dollarMay))
	}
	return cat(c.shape(k, hatMay, false), c.shape(nodes-1-k, false, dollarMay))
}

func (c *chance) repeat(a *shape) *shape {
	l := []int{0, 1, 2, 9, 10, 999, 1000, c.below(1001)}
	least, most := l[c.below(len(l))], l[c.below(len(l))]
	if most = max(least, most); c.below(3) == 0 {
		most = -1
	}
	s := rep(a, least, most)
	s.node.Lazy = c.is()
	return s
}

// row is so many of leaf, joined by nodes of a kind, from the left on or from the right.
func row(many, kind int, leaf *shape, left bool) *shape {
	s := leaf
	for range many - 1 {
		if left {
			s = pair(kind, s, leaf)
		} else {
			s = pair(kind, leaf, s)
		}
	}
	return s
}

// pile is a leaf in so many repeats.
func pile(many int, leaf *shape) *shape {
	s := leaf
	for range many {
		s = rep(s, 0, -1)
	}
	return s
}

// great are trees of just MaxNodes nodes, as deep as can be on one side, or on the other.
func great() []*shape {
	l := []*shape{pile(2047, a), pile(2047, empty)}
	for _, kind := range []int{api.NdCat, api.NdAlt} {
		for _, left := range []bool{true, false} {
			for _, leaf := range []*shape{a, empty, set(noNewline), set(every(3, 2))} {
				s := row(1023, kind, leaf, left)
				l = append(l, rep(row(1024, kind, leaf, left), 0, 5), pair(kind, s, rep(b, 1, 2)), pair(kind, rep(b, 1, 2), s))
			}
		}
	}
	return l
}

// some are shapes of many kinds, all of which may be.
func some() []*shape {
	var l []*shape
	for nodes := range 5 {
		each(nodes, []*shape{empty, a, set(raw('.', '-'))}, func(s *shape) { l = append(l, s) })
	}
	r := chance(71)
	for range 500 {
		l = append(l, r.shape(1+r.below(60), true, true))
	}
	return append(l, great()...)
}

// refused are trees that may not be, each for another reason.
func refused() []api.Tree {
	class, leaf := a.node, empty.node
	l := []api.Tree{{}, {Nodes: []api.Node{}}}
	add := func(nodes ...api.Node) { l = append(l, api.Tree{Nodes: nodes}) }
	for _, kind := range []int{math.MinInt, -1, 0, 8, 9, math.MaxInt} {
		add(api.Node{Kind: kind})
		add(class, api.Node{Kind: kind})
		add(api.Node{Kind: kind}, class, api.Node{Kind: api.NdCat, B: 1})
	}
	// A field that the kind does not have.
	add(api.Node{Kind: api.NdEmpty, A: 1})
	add(api.Node{Kind: api.NdHat, Class: raw('a')})
	add(api.Node{Kind: api.NdDollar, Lazy: true})
	add(api.Node{Kind: api.NdClass, Class: raw('a'), Most: 1})
	add(class, api.Node{Kind: api.NdRep, B: 1, Most: -1})
	add(class, leaf, api.Node{Kind: api.NdAlt, B: 1, Least: 1})
	// Parts that are elsewhere, or nowhere.
	add(api.Node{Kind: api.NdCat})
	add(api.Node{Kind: api.NdRep, Most: -1})
	add(class, api.Node{Kind: api.NdAlt})
	add(class, api.Node{Kind: api.NdRep, A: 1, Most: -1})
	add(class, api.Node{Kind: api.NdRep, A: -1, Most: -1})
	add(class, leaf, api.Node{Kind: api.NdCat, A: 1, B: 0})
	add(class, leaf, api.Node{Kind: api.NdCat, A: 0, B: 2})
	add(class, leaf, api.Node{Kind: api.NdAlt, A: math.MinInt, B: math.MaxInt})
	// Bounds that may not be.
	for _, n := range []api.Node{{Least: -1, Most: -1}, {Least: 2, Most: 1}, {Least: 1001, Most: -1}, {Most: 1001}, {Most: -2}} {
		n.Kind = api.NdRep
		add(class, n)
	}
	// A root that leaves nodes over.
	add(class, class)
	add(class, class, api.Node{Kind: api.NdRep, A: 1, Most: -1})
	// More nodes than may be.
	for _, s := range great() {
		l = append(l, rep(s, 0, 1).tree(), alt(a, s).tree(), cat(s, c).tree())
	}
	return l
}

// astray are trees with an anchor where it cannot stand.
func astray() []*shape {
	return []*shape{
		rep(hat, 0, -1), rep(dollar, 1, 1), cat(a, hat), cat(dollar, a), cat(a, cat(hat, b)), cat(cat(a, dollar), b), cat(hat, hat), cat(dollar, dollar), cat(dollar, hat),
		rep(cat(hat, a), 0, 1), rep(alt(a, dollar), 0, 1), alt(a, cat(b, hat)), cat(alt(a, dollar), b), cat(a, alt(hat, b)), cat(empty, hat), cat(dollar, empty),
	}
}

// kinds are shapes of each kind, in the order of the kinds.
func kinds() []*shape {
	return []*shape{empty, b, cat(b, c), alt(b, c), rep(b, 0, -1), hat, dollar}
}

// says fails unless the tree has this text, or, if that is too long, its length alone.
func says(t *testing.T, x api.Tree, want string) {
	t.Helper()
	p, e := print.Pattern(x)
	switch {
	case len(want) > 1024:
		if p != nil || e != api.ErrLong {
			t.Fatalf("%d bytes: Pattern %q, error %d", len(want), p, e)
		}
	case string(p) != want || e != api.OK:
		t.Fatalf("Pattern %q, error %d; not %q", p, e, want)
	}
	if n, e := print.Length(x); n != len(want) || e != api.OK {
		t.Fatalf("%.80q: Length %d, error %d; not %d", want, n, e, len(want))
	}
}

// refuses fails unless both calls answer this error alone.
func refuses(t *testing.T, x api.Tree, want api.Errno) {
	t.Helper()
	if p, e := print.Pattern(x); p != nil || e != want {
		t.Fatalf("%v: Pattern %q, error %d; not %d", x, p, e, want)
	}
	if n, e := print.Length(x); n != 0 || e != want {
		t.Fatalf("%v: Length %d, error %d; not %d", x, n, e, want)
	}
}
