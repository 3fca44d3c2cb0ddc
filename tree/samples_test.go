package tree_test

import (
	"math"
	"math/big"
	"slices"

	"riddle/api"
)

// What the tests hold the package against is made here without a call of the package.

// shape is a tree whose nodes hold their parts.
type shape struct {
	node api.Node // A and B are nothing here
	a, b *shape
}

func raw(l ...byte) api.Class {
	var c api.Class
	for _, b := range l {
		c[b/64] |= 1 << (b % 64)
	}
	return c
}

func aKind(kind int) *shape { return &shape{node: api.Node{Kind: kind}} }

func aClass(l ...byte) *shape {
	return &shape{node: api.Node{Kind: api.NdClass, Class: raw(l...)}}
}

func aCat(a, b *shape) *shape { return &shape{node: api.Node{Kind: api.NdCat}, a: a, b: b} }

func anAlt(a, b *shape) *shape { return &shape{node: api.Node{Kind: api.NdAlt}, a: a, b: b} }

func aRep(a *shape, least, most int) *shape {
	return &shape{node: api.Node{Kind: api.NdRep, Least: least, Most: most}, a: a}
}

func aLazy(a *shape, least, most int) *shape {
	s := aRep(a, least, most)
	s.node.Lazy = true
	return s
}

var (
	nothing = aKind(api.NdEmpty)
	hat     = aKind(api.NdHat)
	dollar  = aKind(api.NdDollar)
)

// write puts s behind l.
func (s *shape) write(l []api.Node) []api.Node {
	n := s.node
	if s.a != nil {
		l = s.a.write(l)
		n.A = len(l) - 1
	}
	if s.b != nil {
		l = s.b.write(l)
		n.B = len(l) - 1
	}
	return append(l, n)
}

func (s *shape) tree() api.Tree { return api.Tree{Nodes: s.write(nil)} }

// read takes the nodes of one subtree from the end of l, and answers its shape and what is left; nil, if a node may not be.
func read(l []api.Node) (*shape, []api.Node) {
	if len(l) == 0 {
		return nil, nil
	}
	n, left := l[len(l)-1], l[:len(l)-1]
	s := &shape{node: n}
	s.node.A, s.node.B = 0, 0
	noBounds := n.Least == 0 && n.Most == 0 && !n.Lazy
	noClass := n.Class[0]|n.Class[1]|n.Class[2]|n.Class[3] == 0
	switch n.Kind {
	case api.NdEmpty, api.NdHat, api.NdDollar, api.NdClass:
		if n.A != 0 || n.B != 0 || !noBounds || !noClass && n.Kind != api.NdClass {
			return nil, nil
		}
	case api.NdRep:
		if n.A != len(left)-1 || n.B != 0 || !noClass || n.Least < 0 || n.Least > 1000 || n.Most > 1000 || n.Most < n.Least && n.Most != -1 {
			return nil, nil
		}
		if s.a, left = read(left); s.a == nil {
			return nil, nil
		}
	case api.NdCat, api.NdAlt:
		if n.B != len(left)-1 || !noBounds || !noClass {
			return nil, nil
		}
		if s.b, left = read(left); s.b == nil || n.A != len(left)-1 {
			return nil, nil
		}
		if s.a, left = read(left); s.a == nil {
			return nil, nil
		}
	default:
		return nil, nil
	}
	return s, left
}

// shapeOf is the shape of a tree, nil of one that may not be.
func shapeOf(t api.Tree) *shape {
	if len(t.Nodes) > 2048 {
		return nil
	}
	s, left := read(t.Nodes)
	if len(left) > 0 {
		return nil
	}
	return s
}

// taken is the shape as which all calls but Check, Same and Clone take a tree.
func taken(t api.Tree) *shape {
	if s := shapeOf(t); s != nil {
		return s
	}
	return nothing
}

// errorOf is what Check must answer.
func errorOf(t api.Tree) api.Errno {
	s := shapeOf(t)
	if s == nil {
		return api.ErrTree
	}
	if s.hasWrongAnchor(true, true) {
		return api.ErrAnchor
	}
	return api.OK
}

// hasWrongAnchor is of a shape to which the way from the root is one for an NdHat, for an NdDollar.
func (s *shape) hasWrongAnchor(hat, dollar bool) bool {
	switch s.node.Kind {
	case api.NdHat:
		return !hat
	case api.NdDollar:
		return !dollar
	case api.NdRep:
		return s.a.hasWrongAnchor(false, false)
	case api.NdCat:
		return s.a.hasWrongAnchor(hat, false) || s.b.hasWrongAnchor(false, dollar)
	case api.NdAlt:
		return s.a.hasWrongAnchor(hat, dollar) || s.b.hasWrongAnchor(hat, dollar)
	}
	return false
}

func (s *shape) mirror() *shape {
	c := *s
	switch s.node.Kind {
	case api.NdHat:
		return dollar
	case api.NdDollar:
		return hat
	case api.NdRep:
		c.a = s.a.mirror()
	case api.NdCat:
		c.a, c.b = s.b.mirror(), s.a.mirror()
	case api.NdAlt:
		c.a, c.b = s.a.mirror(), s.b.mirror()
	}
	return &c
}

func (s *shape) parts(kind int) []*shape {
	if s.node.Kind != kind || s.b == nil {
		return []*shape{s}
	}
	return append(s.a.parts(kind), s.b.parts(kind)...)
}

// subs are the subtrees in the order of their nodes.
func (s *shape) subs() []*shape {
	var l []*shape
	if s.a != nil {
		l = append(l, s.a.subs()...)
	}
	if s.b != nil {
		l = append(l, s.b.subs()...)
	}
	return append(l, s)
}

// widths are the widths however great they are; nil is without end.
func (s *shape) widths() (*big.Int, *big.Int) {
	switch s.node.Kind {
	case api.NdClass:
		return big.NewInt(1), big.NewInt(1)
	case api.NdCat:
		least, most := s.a.widths()
		leastB, mostB := s.b.widths()
		if most == nil || mostB == nil {
			return least.Add(least, leastB), nil
		}
		return least.Add(least, leastB), most.Add(most, mostB)
	case api.NdAlt:
		least, most := s.a.widths()
		leastB, mostB := s.b.widths()
		if leastB.Cmp(least) < 0 {
			least = leastB
		}
		if most == nil || mostB == nil {
			return least, nil
		}
		if mostB.Cmp(most) > 0 {
			most = mostB
		}
		return least, most
	case api.NdRep:
		least, most := s.a.widths()
		least.Mul(least, big.NewInt(int64(s.node.Least)))
		if s.node.Most == 0 || most != nil && most.Sign() == 0 {
			return least, new(big.Int)
		}
		if s.node.Most < 0 || most == nil {
			return least, nil
		}
		return least, most.Mul(most, big.NewInt(int64(s.node.Most)))
	}
	return new(big.Int), new(big.Int)
}

func (s *shape) weight() *big.Int {
	n := new(big.Int)
	switch s.node.Kind {
	case api.NdClass:
		n.SetInt64(1)
	case api.NdCat, api.NdAlt:
		n.Add(s.a.weight(), s.b.weight())
	case api.NdRep:
		many := int64(s.node.Most)
		if many < 0 {
			many = int64(s.node.Least) + 1
		}
		n.Mul(s.a.weight(), big.NewInt(many))
	}
	return n
}

// told is a number as it is told: 2^30 at most, -1 without end.
func told(n *big.Int) int {
	switch {
	case n == nil:
		return -1
	case n.Cmp(big.NewInt(1<<30)) > 0:
		return 1 << 30
	}
	return int(n.Int64())
}

// lengths are the lengths below 64 of the texts that s means, as bits.
func (s *shape) lengths() uint64 {
	switch s.node.Kind {
	case api.NdClass:
		return 2
	case api.NdCat:
		return sums(s.a.lengths(), s.b.lengths())
	case api.NdAlt:
		return s.a.lengths() | s.b.lengths()
	case api.NdRep:
		one, some, all := s.a.lengths(), uint64(1), uint64(0)
		most := s.node.Most
		if most < 0 {
			most = s.node.Least + 64
		}
		for n := range most + 1 {
			if n >= s.node.Least {
				all |= some
			}
			some = sums(some, one)
		}
		return all
	}
	return 1
}

// sums are the lengths of what has one of a and, behind it, one of b.
func sums(a, b uint64) uint64 {
	var all uint64
	for n := range 64 {
		if b>>n&1 == 1 {
			all |= a << n
		}
	}
	return all
}

// each goes through all shapes of so many nodes, of few leaves and bounds.
func each(nodes int, f func(s *shape)) {
	switch {
	case nodes == 1:
		for _, s := range []*shape{nothing, aClass('a'), aClass(), hat, dollar} {
			f(s)
		}
		return
	case nodes <= 0:
		return
	}
	each(nodes-1, func(a *shape) {
		for _, b := range []struct{ least, most int }{{0, -1}, {2, -1}, {0, 0}, {1, 3}} {
			f(aRep(a, b.least, b.most))
		}
	})
	for k := range nodes - 1 {
		each(k, func(a *shape) {
			each(nodes-1-k, func(b *shape) {
				f(aCat(a, b))
				f(anAlt(a, b))
			})
		})
	}
}

// chance makes numbers of no order, always the same ones.
type chance uint64

func (c *chance) next() uint64 {
	*c = *c*6364136223846793005 + 1442695040888963407
	x := uint64(*c)
	return x ^ x>>33
}

func (c *chance) below(n int) int { return int((c.next() >> 8) % uint64(n)) }

// bound is a bound of a repeat, often one at an edge.
func (c *chance) bound() int {
	l := []int{0, 0, 1, 2, 3, 999, 1000, c.below(1001)}
	return l[c.below(len(l))]
}

// shape is of just so many nodes.
func (c *chance) shape(nodes int) *shape {
	switch {
	case nodes == 1:
		return []*shape{nothing, hat, dollar, aClass(), aClass('a', 'z'), aClass(byte(c.below(256))), aClass('b')}[c.below(7)]
	case nodes == 2 || c.below(5) == 0:
		least, most := c.bound(), c.bound()
		if most = max(least, most); c.below(3) == 0 {
			most = -1
		}
		s := aRep(c.shape(nodes-1), least, most)
		s.node.Lazy = c.below(2) == 0
		return s
	}
	k := 1 + c.below(nodes-2)
	a, b := c.shape(k), c.shape(nodes-1-k)
	if c.below(2) == 0 {
		return aCat(a, b)
	}
	return anAlt(a, b)
}

// number is one that a field might have.
func (c *chance) number() int {
	l := []int{math.MinInt, -2, -1, 0, 0, 1, 2, 3, 7, 8, 1000, 1001, math.MaxInt, c.below(20)}
	return l[c.below(len(l))]
}

// node is any node, and may be none of any tree.
func (c *chance) node() api.Node {
	n := api.Node{Kind: c.below(9)}
	if c.below(3) == 0 {
		n.Class = raw(byte(c.below(256)))
	}
	if c.below(2) == 0 {
		n.A, n.B = c.number(), c.number()
	}
	if c.below(3) == 0 {
		n.Least, n.Most, n.Lazy = c.number(), c.number(), c.below(2) == 0
	}
	return n
}

// damaged is t with something else at some place.
func (c *chance) damaged(t api.Tree) api.Tree {
	l := slices.Clone(t.Nodes)
	at, other := c.below(len(l)), c.below(len(l))
	switch c.below(10) {
	case 0:
		l[at].Kind = c.below(9)
	case 1:
		l[at].A = c.number()
	case 2:
		l[at].B = c.number()
	case 3:
		l[at].Least = c.number()
	case 4:
		l[at].Most = c.number()
	case 5:
		l[at].Lazy = true
	case 6:
		l[at].Class[c.below(4)] = 1
	case 7:
		l[at], l[other] = l[other], l[at]
	case 8:
		l = slices.Delete(l, at, at+1)
	case 9:
		l = slices.Insert(l, at, c.node())
	}
	return api.Tree{Nodes: l}
}

// row is k leaves, joined by nodes of a kind, from the left on or from the right.
func row(k, kind int, left bool) *shape {
	s := aClass('a')
	for range k - 1 {
		a, b := s, aClass('b')
		if !left {
			a, b = b, a
		}
		s = &shape{node: api.Node{Kind: kind}, a: a, b: b}
	}
	return s
}

// pile is a leaf in so many repeats.
func pile(k, least, most int) *shape {
	s := aClass('a')
	for range k {
		s = aRep(s, least, most)
	}
	return s
}

// great are trees of just MaxNodes nodes, each as deep as can be.
func great() []*shape {
	l := []*shape{pile(2047, 1, 1), pile(2047, 0, -1), pile(2047, 1000, 1000), pile(2047, 1000, -1), pile(2047, 0, 0)}
	for _, kind := range []int{api.NdCat, api.NdAlt} {
		for _, left := range []bool{false, true} {
			other := &shape{node: api.Node{Kind: kind}, a: aRep(aClass('x'), 2, 3), b: row(1023, kind, left)}
			l = append(l, aRep(row(1024, kind, left), 0, 5), other)
		}
	}
	return l
}

// trees are trees that may be, but for their anchors.
func trees() []api.Tree {
	var l []api.Tree
	for nodes := range 5 {
		each(nodes, func(s *shape) { l = append(l, s.tree()) })
	}
	c := chance(21)
	for range 600 {
		l = append(l, c.shape(1+c.below(40)).tree())
	}
	for _, s := range great() {
		l = append(l, s.tree())
	}
	return l
}

// refused are trees that may not be, each for another reason.
func refused() []api.Tree {
	class := aClass('a').tree().Nodes[0]
	leaf := api.Node{Kind: api.NdEmpty}
	l := []api.Tree{{}, {Nodes: []api.Node{}}, {Nodes: []api.Node{{}}}}
	add := func(nodes ...api.Node) { l = append(l, api.Tree{Nodes: nodes}) }
	for _, kind := range []int{math.MinInt, -1, 0, 8, 9, 258, math.MaxInt} {
		add(api.Node{Kind: kind})
		add(class, api.Node{Kind: kind})
		add(api.Node{Kind: kind}, class, api.Node{Kind: api.NdCat, B: 1})
	}
	for _, n := range extra() {
		add(n)
		add(n, leaf, api.Node{Kind: api.NdAlt, B: 1})
		add(leaf, n, api.Node{Kind: api.NdAlt, B: 1})
	}
	l = append(l, misplaced()...)
	for _, b := range wrongBounds() {
		add(class, api.Node{Kind: api.NdRep, Least: b.least, Most: b.most})
		add(class, api.Node{Kind: api.NdRep, Least: b.least, Most: b.most, Lazy: true}, api.Node{Kind: api.NdRep, A: 1, Most: -1})
	}
	// A root that leaves nodes over.
	add(class, class)
	add(class, leaf, leaf)
	add(class, class, api.Node{Kind: api.NdRep, A: 1, Most: -1})
	add(class, class, class, api.Node{Kind: api.NdCat, A: 1, B: 2})
	add(class, class, api.Node{Kind: api.NdCat, B: 1}, class)
	for _, s := range great() {
		l = append(l, aRep(s, 0, 1).tree(), aCat(s, aClass('c')).tree(), anAlt(aClass('c'), s).tree())
	}
	return l
}

// extra are nodes without parts that have a field which their kind does not have.
func extra() []api.Node {
	var l []api.Node
	for _, kind := range []int{api.NdEmpty, api.NdHat, api.NdDollar, api.NdClass} {
		for _, k := range []int{1, -1, math.MinInt, math.MaxInt} {
			l = append(l, api.Node{Kind: kind, A: k}, api.Node{Kind: kind, B: k}, api.Node{Kind: kind, Least: k}, api.Node{Kind: kind, Most: k})
		}
		l = append(l, api.Node{Kind: kind, Lazy: true})
		for w := range 4 {
			n := api.Node{Kind: kind}
			n.Class[w] = 1 << 63
			if kind != api.NdClass {
				l = append(l, n)
			}
		}
	}
	return l
}

// misplaced are trees of a node that has its parts elsewhere than they must be, none of them, or a field that its kind does not have.
func misplaced() []api.Tree {
	class := aClass('a').tree().Nodes[0]
	two := aCat(aClass('a'), aClass('b')).write(nil)
	var l []api.Tree
	add := func(ahead []api.Node, n api.Node) {
		l = append(l, api.Tree{Nodes: append(slices.Clone(ahead), n)})
	}
	for _, kind := range []int{api.NdCat, api.NdAlt} {
		for a := -3; a < 6; a++ {
			for b := -3; b < 6; b++ {
				n := api.Node{Kind: kind, A: a, B: b}
				add(nil, n)
				add([]api.Node{class}, n)
				if a != 0 || b != 1 {
					add([]api.Node{class, class}, n)
				}
				if a != 0 || b != 3 {
					add(aCat(aClass('b'), aClass('c')).write([]api.Node{class}), n)
				}
				if a != 2 || b != 3 {
					add(append(slices.Clone(two), class), n)
				}
			}
		}
		for _, n := range []api.Node{{Class: raw('a')}, {Least: 1}, {Most: -1}, {Lazy: true}} {
			n.Kind, n.B = kind, 1
			add([]api.Node{class, class}, n)
		}
	}
	for a := -3; a < 6; a++ {
		n := api.Node{Kind: api.NdRep, A: a, Most: -1}
		add(nil, n)
		if a != 0 {
			add([]api.Node{class}, n)
		}
		if a != 2 {
			add(two, n)
		}
	}
	for _, n := range []api.Node{{Class: raw('a')}, {B: 1}, {B: -1}} {
		n.Kind, n.Most = api.NdRep, -1
		add([]api.Node{class}, n)
	}
	for _, k := range []int{math.MinInt, math.MaxInt} {
		add([]api.Node{class}, api.Node{Kind: api.NdRep, A: k})
		add([]api.Node{class, class}, api.Node{Kind: api.NdCat, A: k, B: 1})
		add([]api.Node{class, class}, api.Node{Kind: api.NdAlt, A: 0, B: k})
	}
	return l
}

func wrongBounds() []struct{ least, most int } {
	return []struct{ least, most int }{
		{-1, -1}, {-1, 0}, {-1, 5}, {math.MinInt, -1}, {math.MinInt, 1000}, {1001, -1}, {1001, 1001}, {math.MaxInt, -1}, {math.MaxInt, math.MaxInt},
		{0, -2}, {0, math.MinInt}, {0, 1001}, {0, math.MaxInt}, {1, 0}, {2, 1}, {1000, 999}, {1000, 1001}, {1000, 0}, {-2, -2}, {-5, -2},
	}
}
