package literal_test

import (
	"fmt"
	"math"
	"slices"
	"strings"
	"testing"

	"riddle/api"
)

// What the tests hold the package against is made here without a call of the package.

func raw(l ...byte) api.Class {
	var c api.Class
	for _, b := range l {
		c[b/64] |= 1 << (b % 64)
	}
	return c
}

var full = api.Class{math.MaxUint64, math.MaxUint64, math.MaxUint64, math.MaxUint64}

// bytesIn are the bytes of a class, rising.
func bytesIn(c api.Class) []byte {
	var l []byte
	for n := range 256 {
		if c[n/64]&(1<<(n%64)) != 0 {
			l = append(l, byte(n))
		}
	}
	return l
}

// lit is the literal of these bytes; of one behind a ~ with Fold.
func lit(s string) api.Literal {
	var l api.Literal
	fold := false
	for _, b := range []byte(s) {
		if b == '~' {
			fold = true
			continue
		}
		l = append(l, api.Letter{Byte: b, Fold: fold})
		fold = false
	}
	return l
}

// show is a literal as lit reads it.
func show(l api.Literal) string {
	var s strings.Builder
	for _, x := range l {
		if x.Fold {
			s.WriteByte('~')
		}
		s.WriteByte(x.Byte)
	}
	return fmt.Sprintf("%q", s.String())
}

func sameLiteral(a, b api.Literal) bool { return slices.Equal(a, b) }

// The chapter's words as they stand.

func isSmall(b byte) bool { return 'a' <= b && b <= 'z' }

// takes are the bytes that a letter takes.
func takes(l api.Letter) []byte {
	if l.Fold && isSmall(l.Byte) {
		return []byte{l.Byte - 32, l.Byte}
	}
	return []byte{l.Byte}
}

func is(l api.Letter, b byte) bool { return slices.Contains(takes(l), b) }

// letterOf is the letter of a class, and whether there is one.
func letterOf(c api.Class) (api.Letter, bool) {
	l := bytesIn(c)
	switch {
	case len(l) == 1:
		return api.Letter{Byte: l[0]}, true
	case len(l) == 2 && isSmall(l[1]) && l[0] == l[1]-32:
		return api.Letter{Byte: l[1], Fold: true}, true
	}
	return api.Letter{}, false
}

func mayLetter(l api.Letter) bool { return !l.Fold || isSmall(l.Byte) }

// may is whether a literal is such as the chapter lets it be.
func may(l api.Literal) bool {
	return 2 <= len(l) && len(l) <= 16 && !slices.ContainsFunc(l, func(x api.Letter) bool { return !mayLetter(x) })
}

func standsAt(l api.Literal, w []byte, at int) bool {
	if at < 0 || at > len(w) || len(l) > len(w)-at {
		return false
	}
	for k, x := range l {
		if !is(x, w[at+k]) {
			return false
		}
	}
	return true
}

// placesOf are the places of w at which a literal stands, all tried one by one.
func placesOf(l api.Literal, w []byte) []int {
	var all []int
	for at := range len(w) + 1 {
		if standsAt(l, w, at) {
			all = append(all, at)
		}
	}
	return all
}

// Trees

// shape is a tree whose nodes hold their parts.
type shape struct {
	node api.Node // A and B are nothing here
	a, b *shape
}

func aKind(kind int) *shape { return &shape{node: api.Node{Kind: kind}} }

func aClass(c api.Class) *shape { return &shape{node: api.Node{Kind: api.NdClass, Class: c}} }

func set(s string) *shape { return aClass(raw([]byte(s)...)) }

func pair(kind int, a, b *shape) *shape { return &shape{node: api.Node{Kind: kind}, a: a, b: b} }

// cat and alt join two or more, from the left on.
func cat(first *shape, l ...*shape) *shape {
	for _, s := range l {
		first = pair(api.NdCat, first, s)
	}
	return first
}

func alt(first *shape, l ...*shape) *shape {
	for _, s := range l {
		first = pair(api.NdAlt, first, s)
	}
	return first
}

// right joins them by NdCats from the right on.
func right(l ...*shape) *shape {
	s := l[len(l)-1]
	for _, a := range slices.Backward(l[:len(l)-1]) {
		s = pair(api.NdCat, a, s)
	}
	return s
}

// halves joins them by NdCats, as many on either side.
func halves(l ...*shape) *shape {
	if len(l) == 1 {
		return l[0]
	}
	return pair(api.NdCat, halves(l[:len(l)/2]...), halves(l[len(l)/2:]...))
}

func rep(a *shape, least, most int) *shape {
	return &shape{node: api.Node{Kind: api.NdRep, Least: least, Most: most}, a: a}
}

func lazy(a *shape, least, most int) *shape {
	s := rep(a, least, most)
	s.node.Lazy = true
	return s
}

func star(a *shape) *shape { return rep(a, 0, -1) }

var (
	empty   = aKind(api.NdEmpty)
	hat     = aKind(api.NdHat)
	dollar  = aKind(api.NdDollar)
	never   = aClass(api.Class{})
	dots    = aClass(full)
	a, b, c = set("a"), set("b"), set("c")
	both    = set("Aa")
	ab      = set("ab")
)

// row is a class for each of these bytes; behind a ~ of both cases.
func row(s string) []*shape {
	var l []*shape
	for _, x := range lit(s) {
		l = append(l, aClass(raw(takes(x)...)))
	}
	return l
}

// word is a sequence of them.
func word(s string) *shape { return cat(row(s)[0], row(s)[1:]...) }

// write puts s behind l.
func (s *shape) write(l []api.Node) []api.Node {
	n := s.node
	if s.a != nil {
		l = s.a.write(l)
		n.A = len(l) - 1
	}
	if s.b != nil {
		l = s.b.write(l)
		n.B = len(l) - 1
	}
	return append(l, n)
}

func (s *shape) tree() api.Tree { return api.Tree{Nodes: s.write(nil)} }

func (s *shape) size() int {
	if s == nil {
		return 0
	}
	return 1 + s.a.size() + s.b.size()
}

// isPlain answers whether all repeats of s are stars.
func (s *shape) isPlain() bool {
	if s == nil {
		return true
	}
	counted := s.node.Kind == api.NdRep && (s.node.Least != 0 || s.node.Most != -1 || s.node.Lazy)
	return !counted && s.a.isPlain() && s.b.isPlain()
}

// parts are what the NdCats from the root on join.
func (s *shape) parts() []*shape {
	if s.node.Kind != api.NdCat {
		return []*shape{s}
	}
	return append(s.a.parts(), s.b.parts()...)
}

// least is how many bytes a text of s has at least.
func (s *shape) least() int {
	switch s.node.Kind {
	case api.NdClass:
		return 1
	case api.NdCat:
		return s.a.least() + s.b.least()
	case api.NdAlt:
		return min(s.a.least(), s.b.least())
	case api.NdRep:
		return s.node.Least * s.a.least()
	}
	return 0
}

// run is a run's letters, the number of its first part, and how many bytes the parts ahead of that have at least.
type run struct {
	first, ahead int
	letters      api.Literal
}

// runs takes the chapter's words as they stand.
func (s *shape) runs() []run {
	if !s.isPlain() {
		return nil
	}
	var l []run
	ahead, was := 0, false
	for at, part := range s.parts() {
		letter, is := letterOf(part.node.Class)
		is = is && part.node.Kind == api.NdClass
		if is && !was {
			l = append(l, run{first: at, ahead: ahead})
		}
		if is {
			l[len(l)-1].letters = append(l[len(l)-1].letters, letter)
		}
		ahead, was = ahead+part.least(), is
	}
	return l
}

// best takes the chapter's words as they stand.
func (s *shape) best() (run, bool) {
	longest := 0
	for _, r := range s.runs() {
		longest = max(longest, len(r.letters))
	}
	for _, r := range s.runs() {
		if len(r.letters) == longest && longest >= 2 {
			r.letters = r.letters[:min(16, longest)]
			return r, true
		}
	}
	return run{}, false
}

// each goes through all shapes of so many nodes, of these leaves.
func each(nodes int, leaves []*shape, f func(s *shape)) {
	if nodes == 1 {
		for _, s := range leaves {
			f(s)
		}
	}
	if nodes <= 1 {
		return
	}
	each(nodes-1, leaves, func(a *shape) {
		f(star(a))
		f(rep(a, 1, 1))
	})
	for k := range nodes - 1 {
		each(k, leaves, func(a *shape) {
			each(nodes-1-k, leaves, func(b *shape) {
				f(cat(a, b))
				f(alt(a, b))
			})
		})
	}
}

// Trees that are plain and such that are not

// unfit are trees that normal.Is does not take: no trees at all, and those with another repeat than a star.
func unfit() []api.Tree {
	class, leaf := a.node, empty.node
	l := []api.Tree{{}, {Nodes: []api.Node{}}}
	add := func(nodes ...api.Node) { l = append(l, api.Tree{Nodes: nodes}) }
	for _, kind := range []int{math.MinInt, -1, 0, 8, 9, math.MaxInt} {
		add(api.Node{Kind: kind})
		add(api.Node{Kind: kind, Class: raw('a')})
		add(class, api.Node{Kind: kind, Class: raw('b')}, api.Node{Kind: api.NdCat, B: 1})
	}
	// A field that the kind does not have.
	add(api.Node{Kind: api.NdEmpty, Class: raw('a')})
	add(api.Node{Kind: api.NdHat, Class: raw('a')})
	add(api.Node{Kind: api.NdClass, Class: raw('a'), Most: 1})
	add(class, class, api.Node{Kind: api.NdCat, B: 1, Class: raw('a')})
	add(class, api.Node{Kind: api.NdRep, Class: raw('a'), Most: -1})
	// Parts that are elsewhere, or nowhere; bounds that may not be; nodes that are left over.
	add(api.Node{Kind: api.NdCat})
	add(class, leaf, api.Node{Kind: api.NdCat, A: 1, B: 0})
	add(class, class, api.Node{Kind: api.NdCat, A: math.MinInt, B: math.MaxInt})
	add(class, api.Node{Kind: api.NdRep, Least: 2, Most: 1})
	add(class, api.Node{Kind: api.NdRep, Least: 1001, Most: -1})
	add(class, class)
	add(class, class, class, api.Node{Kind: api.NdCat, A: 1, B: 2})
	// More nodes than may be.
	l = append(l, word(strings.Repeat("a", 1025)).tree())
	for _, s := range []*shape{rep(a, 0, 1), rep(a, 1, 1), rep(a, 2, 2), rep(a, 1, -1), lazy(a, 0, -1), rep(a, 0, 0)} {
		for _, x := range []*shape{s, cat(a, b, s), cat(s, a, b), cat(a, b, s, a, b), cat(a, b, star(s)), cat(a, b, alt(s, c)), right(a, b, c, alt(star(alt(s, b)), c))} {
			l = append(l, x.tree())
		}
	}
	return l
}

// plain are shapes that normal.Is takes, of all sorts.
func plain() []*shape {
	l := []*shape{a, both, empty, hat, dollar, never, dots, star(a), alt(a, b), alt(both, a), ab, set("09"), set("\x00"), set("\xff"), star(star(a)), star(cat(a, b))}
	for nodes := 2; nodes <= 4; nodes++ {
		each(nodes, []*shape{a, both, ab, empty}, func(s *shape) {
			if s.isPlain() {
				l = append(l, s)
			}
		})
	}
	for _, s := range []string{"ab", "~a~b", "abcdefghijklmno", "abcdefghijklmnop", "abcdefghijklmnopq", "\x00\xff", strings.Repeat("xy", 200)} {
		l = append(l, word(s), right(row(s)...), halves(row(s)...), cat(star(a), word(s), star(b), word(s)), cat(hat, word(s), dollar))
	}
	c := chance(51)
	for range 400 {
		l = append(l, c.sequence(1+c.below(40)))
	}
	// Anchors where they cannot stand: normal.Is takes these, too.
	return append(l, cat(a, hat), cat(a, b, hat, a, b), cat(dollar, a, b), star(hat), cat(a, b, star(dollar), a), cat(hat, hat, a, b))
}

// chance makes numbers of no order, always the same ones.
type chance uint64

func (c *chance) next() uint64 {
	*c = *c*6364136223846793005 + 1442695040888963407
	x := uint64(*c)
	return x ^ x>>33
}

func (c *chance) below(n int) int { return int((c.next() >> 8) % uint64(n)) }

func (c *chance) is() bool { return c.below(2) == 1 }

func (c *chance) text(most int, of string) []byte {
	w := make([]byte, c.below(most+1))
	for i := range w {
		w[i] = of[c.below(len(of))]
	}
	return w
}

// literal is of up to so many letters of these bytes, of which some have Fold, if it may be so.
func (c *chance) literal(most int, of string, fold bool) api.Literal {
	var l api.Literal
	for _, b := range c.text(most, of) {
		l = append(l, api.Letter{Byte: b, Fold: fold && c.is()})
	}
	return l
}

// leaf is most often one that has a letter.
func (c *chance) leaf() *shape {
	return []*shape{a, b, c.letter(), c.letter(), c.letter(), both, ab, empty}[c.below(8)]
}

func (c *chance) letter() *shape {
	x := api.Letter{Byte: 'a' + byte(c.below(4)), Fold: c.is()}
	return aClass(raw(takes(x)...))
}

// some is a shape of just so many nodes, or one more, that normal.Is takes, without anchors.
func (c *chance) some(nodes int) *shape {
	switch {
	case nodes <= 1:
		return c.leaf()
	case nodes == 2 || c.below(4) == 0:
		return star(c.some(nodes - 1))
	}
	k := 1 + c.below(nodes-2)
	if c.is() {
		return alt(c.some(k), c.some(nodes-1-k))
	}
	return cat(c.some(k), c.some(nodes-1-k))
}

// sequence is of so many parts that are letters most often, joined in one of the ways there are.
func (c *chance) sequence(many int) *shape {
	rare := 2 + c.below(20)
	var l []*shape
	for range many {
		if c.below(rare) == 0 {
			l = append(l, c.some(1+c.below(6)))
		} else {
			l = append(l, c.letter())
		}
	}
	switch c.below(3) {
	case 0:
		return cat(l[0], l[1:]...)
	case 1:
		return right(l...)
	}
	return halves(l...)
}

// member is a text that s means between a beginning and an end, and whether one was found.
func (c *chance) member(s *shape) ([]byte, bool) {
	switch s.node.Kind {
	case api.NdClass:
		l := bytesIn(s.node.Class)
		if len(l) == 0 {
			return nil, false
		}
		return []byte{l[c.below(len(l))]}, true
	case api.NdCat:
		w, is := c.member(s.a)
		v, has := c.member(s.b)
		return append(w, v...), is && has
	case api.NdAlt:
		if c.is() {
			return c.member(s.a)
		}
		return c.member(s.b)
	case api.NdRep:
		return c.times(s.a)
	}
	return nil, true
}

func (c *chance) times(s *shape) ([]byte, bool) {
	var w []byte
	for range c.below(4) {
		v, is := c.member(s)
		if !is {
			return nil, false
		}
		w = append(w, v...)
	}
	return w, true
}

// eachText goes through all texts of these bytes, up to so many of them.
func eachText(of string, most int, f func(w []byte)) {
	texts := [][]byte{nil}
	for range most + 1 {
		var longer [][]byte
		for _, w := range texts {
			f(w)
			for i := range len(of) {
				longer = append(longer, append(slices.Clone(w), of[i]))
			}
		}
		texts = longer
	}
}

// eachLiteral goes through all literals of these letters, up to so many of them.
func eachLiteral(of api.Literal, most int, f func(l api.Literal)) {
	literals := []api.Literal{nil}
	for range most + 1 {
		var longer []api.Literal
		for _, l := range literals {
			f(l)
			for _, x := range of {
				longer = append(longer, append(slices.Clone(l), x))
			}
		}
		literals = longer
	}
}

// isRuns fails unless these runs were told, and no other.
func isRuns(t *testing.T, what string, got, want []run) {
	t.Helper()
	if !slices.EqualFunc(got, want, func(x, y run) bool { return x.first == y.first && sameLiteral(x.letters, y.letters) }) {
		t.Fatalf("%s: %v, not %v", what, got, want)
	}
}

// text is a tree's nodes for a report, the first ones if there are many.
func text(x api.Tree) string {
	var text strings.Builder
	fmt.Fprintf(&text, "%d nodes:", len(x.Nodes))
	for at, n := range x.Nodes[:min(24, len(x.Nodes))] {
		fmt.Fprintf(&text, " %d", at)
		switch n.Kind {
		case api.NdEmpty:
			text.WriteString("-")
		case api.NdClass:
			fmt.Fprintf(&text, "%.40q", bytesIn(n.Class))
		case api.NdCat:
			fmt.Fprintf(&text, "(%d %d)", n.A, n.B)
		case api.NdAlt:
			fmt.Fprintf(&text, "(%d|%d)", n.A, n.B)
		default:
			fmt.Fprintf(&text, "%+v", n)
		}
	}
	return text.String()
}
