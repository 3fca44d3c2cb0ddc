package normal_test

import (
	"fmt"
	"math"
	"math/big"
	"slices"
	"strings"
	"testing"

	"riddle/api"
)

// What the tests hold the package against is made here without a call of the package.

func raw(l ...byte) api.Class {
	var c api.Class
	for _, b := range l {
		c[b/64] |= 1 << (b % 64)
	}
	return c
}

// shape is a tree whose nodes hold their parts.
type shape struct {
	node api.Node // A and B are nothing here
	a, b *shape
}

func aKind(kind int) *shape { return &shape{node: api.Node{Kind: kind}} }

func set(l ...byte) *shape { return &shape{node: api.Node{Kind: api.NdClass, Class: raw(l...)}} }

func pair(kind int, a, b *shape) *shape { return &shape{node: api.Node{Kind: kind}, a: a, b: b} }

// cat and alt join two or more, from the left on.
func cat(first *shape, l ...*shape) *shape {
	for _, s := range l {
		first = pair(api.NdCat, first, s)
	}
	return first
}

func alt(first *shape, l ...*shape) *shape {
	for _, s := range l {
		first = pair(api.NdAlt, first, s)
	}
	return first
}

func rep(a *shape, least, most int) *shape {
	return &shape{node: api.Node{Kind: api.NdRep, Least: least, Most: most}, a: a}
}

func lazy(a *shape, least, most int) *shape {
	s := rep(a, least, most)
	s.node.Lazy = true
	return s
}

func star(a *shape) *shape { return rep(a, 0, -1) }

var (
	empty   = aKind(api.NdEmpty)
	hat     = aKind(api.NdHat)
	dollar  = aKind(api.NdDollar)
	never   = set()
	a, b, c = set('a'), set('b'), set('c')
	ab      = set('a', 'b')
	line    = set('\n')
)

// write puts s behind l.
func (s *shape) write(l []api.Node) []api.Node {
	n := s.node
	if s.a != nil {
		l = s.a.write(l)
		n.A = len(l) - 1
	}
	if s.b != nil {
		l = s.b.write(l)
		n.B = len(l) - 1
	}
	return append(l, n)
}

func (s *shape) tree() api.Tree { return api.Tree{Nodes: s.write(nil)} }

// text is a tree's nodes for a report, the first ones if there are many.
func text(x api.Tree) string {
	var text strings.Builder
	fmt.Fprintf(&text, "%d nodes:", len(x.Nodes))
	for at, n := range x.Nodes[:min(24, len(x.Nodes))] {
		fmt.Fprintf(&text, " %d", at)
		switch n.Kind {
		case api.NdEmpty:
			text.WriteString("-")
		case api.NdHat:
			text.WriteString("^")
		case api.NdDollar:
			text.WriteString("$")
		case api.NdClass:
			fmt.Fprintf(&text, "%x", n.Class)
		case api.NdCat:
			fmt.Fprintf(&text, "(%d %d)", n.A, n.B)
		case api.NdAlt:
			fmt.Fprintf(&text, "(%d|%d)", n.A, n.B)
		default:
			fmt.Fprintf(&text, "%+v", n)
		}
	}
	return text.String()
}

func textOf(l []api.Branch) string {
	var all []string
	for _, b := range l {
		all = append(all, fmt.Sprintf("{%t %t %s}", b.Hat, b.Dollar, text(b.Tree)))
	}
	return strings.Join(all, " ")
}

// has answers whether some node of s is of that kind.
func (s *shape) has(kind int) bool {
	return s != nil && (s.node.Kind == kind || s.a.has(kind) || s.b.has(kind))
}

// isPlain answers what Is must of a shape that is a tree.
func (s *shape) isPlain() bool {
	if s == nil {
		return true
	}
	counted := s.node.Kind == api.NdRep && (s.node.Least != 0 || s.node.Most != -1 || s.node.Lazy)
	return !counted && s.a.isPlain() && s.b.isPlain()
}

// unrolled takes the chapter's words as they stand.
func (s *shape) unrolled() *shape {
	switch s.node.Kind {
	case api.NdCat, api.NdAlt:
		return pair(s.node.Kind, s.a.unrolled(), s.b.unrolled())
	case api.NdRep:
		return s.times()
	}
	return s
}

func (s *shape) times() *shape {
	least, most := s.node.Least, s.node.Most
	if most == 0 {
		return empty
	}
	part := s.a.unrolled()
	var these []*shape
	for range least {
		these = append(these, part)
	}
	if most == -1 {
		these = append(these, star(part))
	}
	if most > least {
		these = append(these, option(part, most-least))
	}
	return cat(these[0], these[1:]...)
}

func option(part *shape, many int) *shape {
	if many == 1 {
		return alt(part, empty)
	}
	return alt(cat(part, option(part, many-1)), empty)
}

// size is how many nodes s has, however many these are, when it is unrolled.
func (s *shape) size() *big.Int {
	one := big.NewInt(1)
	switch s.node.Kind {
	case api.NdCat, api.NdAlt:
		n := new(big.Int).Add(s.a.size(), s.b.size())
		return n.Add(n, one)
	case api.NdRep:
		if s.node.Most == 0 {
			return one
		}
		// One item for each of the least and for what comes behind them, and one NdCat less than there are items.
		n, part := new(big.Int), s.a.size()
		items := s.node.Least
		for range s.node.Least {
			n.Add(n, part)
		}
		if s.node.Most == -1 {
			n.Add(n, part).Add(n, one)
			items++
		}
		if s.node.Most > s.node.Least {
			// The option of 1 is an NdAlt and an NdEmpty besides the part; each further one has an NdCat, too.
			n.Add(n, part).Add(n, big.NewInt(2))
			for range s.node.Most - s.node.Least - 1 {
				n.Add(n, part).Add(n, big.NewInt(3))
			}
			items++
		}
		return n.Add(n, big.NewInt(int64(items-1)))
	}
	return one
}

// weight is how many classes s has when it is unrolled, however many these are.
func (s *shape) weight() *big.Int {
	n := new(big.Int)
	switch s.node.Kind {
	case api.NdClass:
		n.SetInt64(1)
	case api.NdCat, api.NdAlt:
		n.Add(s.a.weight(), s.b.weight())
	case api.NdRep:
		many := int64(s.node.Most)
		if many < 0 {
			many = int64(s.node.Least) + 1
		}
		n.Mul(s.a.weight(), big.NewInt(many))
	}
	return n
}

// astrayIn answers whether an anchor stands where it cannot in s, to which the way from the root is one for an NdHat, for an NdDollar.
func (s *shape) astrayIn(hat, dollar bool) bool {
	switch s.node.Kind {
	case api.NdHat:
		return !hat
	case api.NdDollar:
		return !dollar
	case api.NdRep:
		return s.a.astrayIn(false, false)
	case api.NdCat:
		return s.a.astrayIn(hat, false) || s.b.astrayIn(false, dollar)
	case api.NdAlt:
		return s.a.astrayIn(hat, dollar) || s.b.astrayIn(hat, dollar)
	}
	return false
}

// errorOf is what Unroll must answer of a shape of no more nodes than there may be.
func (s *shape) errorOf() api.Errno {
	switch {
	case s.astrayIn(true, true):
		return api.ErrAnchor
	case s.weight().Cmp(big.NewInt(512)) > 0:
		return api.ErrPositions
	case s.size().Cmp(big.NewInt(2048)) > 0:
		return api.ErrLong
	}
	return api.OK
}

// fork is what a shape has for neither, Hat alone, Dollar alone, both; nil where it has nothing.
type fork [4]*shape

const (
	neither = iota
	hatAlone
	dollarAlone
	both
)

// fork takes the chapter's words as they stand, of a shape that is unrolled.
func (s *shape) fork(t *testing.T) fork {
	var f fork
	switch {
	case s.node.Kind == api.NdHat:
		f[hatAlone] = empty
	case s.node.Kind == api.NdDollar:
		f[dollarAlone] = empty
	case !s.has(api.NdHat) && !s.has(api.NdDollar):
		f[neither] = s
	case s.node.Kind == api.NdAlt:
		p, q := s.a.fork(t), s.b.fork(t)
		for k := range f {
			switch {
			case p[k] != nil && q[k] != nil:
				f[k] = alt(p[k], q[k])
			case p[k] != nil:
				f[k] = p[k]
			default:
				f[k] = q[k]
			}
		}
	case s.node.Kind == api.NdCat:
		first, second := s.a.fork(t), s.b.fork(t)
		for i, p := range first {
			for k, q := range second {
				if p == nil || q == nil {
					continue
				}
				if i > hatAlone || k == hatAlone || k == both || f[i|k] != nil {
					t.Fatal("an anchor where it cannot stand")
				}
				f[i|k] = cat(p, q)
			}
		}
	default:
		t.Fatal("an anchor in a repeat")
	}
	return f
}

// weight is how many classes all of them have together.
func (f fork) weight() *big.Int {
	n := new(big.Int)
	for _, s := range f {
		if s != nil {
			n.Add(n, s.weight())
		}
	}
	return n
}

// branches are those that there are.
func (f fork) branches() []api.Branch {
	var l []api.Branch
	for k, s := range f {
		if s != nil {
			l = append(l, api.Branch{Hat: k == hatAlone || k == both, Dollar: k == dollarAlone || k == both, Tree: s.tree()})
		}
	}
	return l
}

func sameTree(x, y api.Tree) bool { return slices.Equal(x.Nodes, y.Nodes) }

func sameBranches(x, y []api.Branch) bool {
	return slices.EqualFunc(x, y, func(x, y api.Branch) bool {
		return x.Hat == y.Hat && x.Dollar == y.Dollar && sameTree(x.Tree, y.Tree)
	})
}

// each goes through all shapes of so many nodes, of these leaves.
func each(nodes int, leaves []*shape, f func(s *shape)) {
	if nodes == 1 {
		for _, s := range leaves {
			f(s)
		}
	}
	if nodes <= 1 {
		return
	}
	each(nodes-1, leaves, func(a *shape) {
		for _, b := range []struct{ least, most int }{{0, -1}, {2, -1}, {0, 0}, {1, 3}, {2, 2}, {0, 1}} {
			f(rep(a, b.least, b.most))
		}
		f(lazy(a, 0, -1))
	})
	for k := range nodes - 1 {
		each(k, leaves, func(a *shape) {
			each(nodes-1-k, leaves, func(b *shape) {
				f(cat(a, b))
				f(alt(a, b))
			})
		})
	}
}

// chance makes numbers of no order, always the same ones.
type chance uint64

func (c *chance) next() uint64 {
	*c = *c*6364136223846793005 + 1442695040888963407
	x := uint64(*c)
	return x ^ x>>33
}

func (c *chance) below(n int) int { return int((c.next() >> 8) % uint64(n)) }

func (c *chance) is() bool { return c.below(2) == 1 }

// text is of up to so many bytes, most of them a.
func (c *chance) text(most int) []byte {
	w := make([]byte, c.below(most+1))
	for i := range w {
		w[i] = "aaaab\n\n"[c.below(7)]
	}
	return w
}

// shape is of just so many nodes, with anchors where they may stand.
func (c *chance) shape(nodes int, hatMay, dollarMay bool) *shape {
	switch {
	case nodes == 1 && hatMay && c.below(3) == 0:
		return hat
	case nodes == 1 && dollarMay && c.below(3) == 0:
		return dollar
	case nodes == 1:
		return []*shape{empty, never, a, a, a, b, ab, ab, line}[c.below(9)]
	case nodes == 2 || c.below(5) == 0:
		return c.repeat(c.shape(nodes-1, false, false))
	}
	k := 1 + c.below(nodes-2)
	if c.is() {
		return alt(c.shape(k, hatMay, dollarMay), c.shape(nodes-1-k, hatMay, dollarMay))
	}
	return cat(c.shape(k, hatMay, false), c.shape(nodes-1-k, false, dollarMay))
}

// thin is s with nothing in the place of most classes.
func (c *chance) thin(s *shape) *shape {
	if s.node.Kind == api.NdClass && c.below(5) > 0 {
		return empty
	}
	t := *s
	if s.a != nil {
		t.a = c.thin(s.a)
	}
	if s.b != nil {
		t.b = c.thin(s.b)
	}
	return &t
}

func (c *chance) repeat(a *shape) *shape {
	l := []int{0, 0, 1, 1, 1, 2, 3, 6}
	least, most := l[c.below(len(l))], l[c.below(len(l))]
	if most = max(least, most); c.below(3) == 0 {
		most = -1
	}
	s := rep(a, least, most)
	s.node.Lazy = c.is()
	return s
}

// node is any node, and may be none of any tree.
func (c *chance) node() api.Node {
	numbers := []int{math.MinInt, -2, -1, 0, 0, 1, 2, 3, 1000, 1001, math.MaxInt}
	number := func() int { return numbers[c.below(len(numbers))] }
	n := api.Node{Kind: c.below(9)}
	if c.below(3) == 0 {
		n.Class = raw(byte(c.below(256)))
	}
	if c.is() {
		n.A, n.B = number(), number()
	}
	if c.below(3) == 0 {
		n.Least, n.Most, n.Lazy = number(), number(), c.is()
	}
	return n
}

// row is so many of leaf, joined by nodes of a kind, from the left on or from the right.
func row(many, kind int, leaf *shape, left bool) *shape {
	s := leaf
	for range many - 1 {
		if left {
			s = pair(kind, s, leaf)
		} else {
			s = pair(kind, leaf, s)
		}
	}
	return s
}

// pile is a leaf in so many repeats.
func pile(many int, leaf *shape, least, most int) *shape {
	s := leaf
	for range many {
		s = rep(s, least, most)
	}
	return s
}

// refused are trees that may not be, each for another reason.
func refused() []api.Tree {
	class, leaf := a.node, empty.node
	l := []api.Tree{{}, {Nodes: []api.Node{}}}
	add := func(nodes ...api.Node) { l = append(l, api.Tree{Nodes: nodes}) }
	for _, kind := range []int{math.MinInt, -1, 0, 8, 9, math.MaxInt} {
		add(api.Node{Kind: kind})
		add(class, api.Node{Kind: kind})
		add(api.Node{Kind: kind}, class, api.Node{Kind: api.NdAlt, B: 1})
	}
	// A field that the kind does not have.
	add(api.Node{Kind: api.NdEmpty, A: 1})
	add(api.Node{Kind: api.NdHat, Class: raw('a')})
	add(api.Node{Kind: api.NdDollar, Lazy: true})
	add(api.Node{Kind: api.NdClass, Class: raw('a'), Most: 1})
	add(class, api.Node{Kind: api.NdRep, B: 1, Most: -1})
	add(class, api.Node{Kind: api.NdRep, Class: raw('a'), Most: -1})
	add(class, leaf, api.Node{Kind: api.NdAlt, B: 1, Least: 1})
	// Parts that are elsewhere, or nowhere.
	add(api.Node{Kind: api.NdCat})
	add(api.Node{Kind: api.NdRep, Most: -1})
	add(class, api.Node{Kind: api.NdAlt})
	add(class, api.Node{Kind: api.NdRep, A: 1, Most: -1})
	add(class, api.Node{Kind: api.NdRep, A: -1, Most: -1})
	add(class, leaf, api.Node{Kind: api.NdCat, A: 1, B: 0})
	add(class, leaf, api.Node{Kind: api.NdCat, A: 0, B: 2})
	add(class, leaf, api.Node{Kind: api.NdAlt, A: math.MinInt, B: math.MaxInt})
	// Bounds that may not be.
	for _, n := range []api.Node{{Least: -1, Most: -1}, {Least: 2, Most: 1}, {Least: 1001, Most: -1}, {Most: 1001}, {Most: -2}, {Most: math.MaxInt}, {Least: math.MinInt}} {
		n.Kind = api.NdRep
		add(class, n)
	}
	// A root that leaves nodes over.
	add(class, class)
	add(class, class, api.Node{Kind: api.NdRep, A: 1, Most: -1})
	// More nodes than may be; and anchors astray in them, and more classes than there may be.
	l = append(l, pile(2048, a, 0, -1).tree(), row(1025, api.NdAlt, empty, true).tree(), row(1025, api.NdCat, hat, true).tree(), row(1025, api.NdCat, a, false).tree())
	return l
}

// astray are shapes with an anchor where it cannot stand, plain and not.
func astray() []*shape {
	return []*shape{
		star(hat), lazy(hat, 0, -1), rep(hat, 1, 1), rep(dollar, 1, 1), rep(dollar, 0, 0), cat(a, hat), cat(dollar, a), cat(a, cat(hat, b)), cat(cat(a, dollar), b), cat(hat, hat), cat(dollar, dollar), cat(dollar, hat),
		rep(cat(hat, a), 0, 1), rep(alt(a, dollar), 0, 1), alt(a, cat(b, hat)), cat(alt(a, dollar), b), cat(a, alt(hat, b)), cat(empty, hat), cat(dollar, empty), alt(empty, star(hat)), cat(star(a), star(cat(b, dollar))),
	}
}

// anchored are shapes with anchors in all the ways that there are.
func anchored() []*shape {
	l := []*shape{hat, dollar, cat(hat, dollar), alt(hat, dollar), alt(dollar, hat), alt(hat, hat), alt(dollar, dollar)}
	for _, left := range []*shape{hat, a, alt(hat, a), alt(a, hat), cat(hat, a), cat(alt(hat, b), a), alt(cat(hat, a), cat(hat, b)), rep(a, 1, 2)} {
		for _, right := range []*shape{dollar, b, alt(dollar, b), alt(b, dollar), cat(b, dollar), cat(b, alt(a, dollar)), alt(cat(a, dollar), cat(b, dollar)), rep(b, 1, -1)} {
			l = append(l, cat(left, right), alt(left, right), alt(right, left), alt(cat(left, right), left), cat(cat(left, ab), right), cat(left, cat(ab, right)), cat(alt(left, cat(hat, line)), alt(right, empty)))
		}
	}
	return l
}

// great are trees of about MaxNodes nodes, as deep as can be.
func great() []*shape {
	l := []*shape{pile(2047, a, 0, -1), pile(2047, a, 1, 1), pile(2047, a, 1000, 1000), pile(2047, a, 0, 0), pile(2047, a, 1, 2), pile(2047, empty, 1000, -1), pile(2047, empty, 0, 1), star(row(1024, api.NdCat, empty, true)), star(row(1024, api.NdAlt, empty, false))}
	for _, kind := range []int{api.NdCat, api.NdAlt} {
		for _, left := range []bool{true, false} {
			l = append(l, row(512, kind, a, left), row(1024, kind, empty, left), row(680, kind, rep(ab, 0, 1), left), row(512, kind, rep(rep(a, 1000, 1000), 0, 0), left))
		}
	}
	return append(l, cat(hat, row(512, api.NdCat, a, true)), cat(row(512, api.NdCat, a, false), dollar), row(1024, api.NdAlt, hat, true), row(1024, api.NdAlt, dollar, false))
}
