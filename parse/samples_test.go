package parse_test

import (
	"math"
	"slices"
	"strings"
	"testing"

	"riddle/api"
	"riddle/parse"
	"riddle/token"
)

// What the tests hold the package against is made here without a call of the package.

// raw is the class of these bytes.
func raw(l ...byte) api.Class {
	var c api.Class
	for _, b := range l {
		c[b/64] |= 1 << (b % 64)
	}
	return c
}

// where is the class of the bytes for which something holds.
func where(is func(b byte) bool) api.Class {
	var c api.Class
	for n := range 256 {
		if is(byte(n)) {
			c[n/64] |= 1 << (n % 64)
		}
	}
	return c
}

func has(c api.Class, b byte) bool { return c[b/64]>>(b%64)&1 == 1 }

// other is the same letter in the other case; of no letter the byte itself.
func other(b byte) byte {
	if b >= 'a' && b <= 'z' {
		return b - 32
	}
	if b >= 'A' && b <= 'Z' {
		return b + 32
	}
	return b
}

var full = where(func(byte) bool { return true })

// Tokens

func aByte(b byte) api.Token { return api.Token{Kind: api.TkByte, Byte: b} }

func aClass(c api.Class) api.Token { return api.Token{Kind: api.TkClass, Class: c} }

func aNot(c api.Class) api.Token { return api.Token{Kind: api.TkClass, Class: c, Not: true} }

func aRepeat(least, most int) api.Token {
	return api.Token{Kind: api.TkRepeat, Least: least, Most: most}
}

func aLazy(least, most int) api.Token {
	return api.Token{Kind: api.TkRepeat, Least: least, Most: most, Lazy: true}
}

var (
	open   = api.Token{Kind: api.TkOpen}
	shut   = api.Token{Kind: api.TkClose}
	bar    = api.Token{Kind: api.TkBar}
	dot    = api.Token{Kind: api.TkDot}
	hat    = api.Token{Kind: api.TkHat}
	dollar = api.Token{Kind: api.TkDollar}
	star   = aRepeat(0, -1)
)

// placed puts tokens at places of no order, so that a place is never taken for a number in the list.
func placed(l ...api.Token) []api.Token {
	c := slices.Clone(l)
	for i := range c {
		c[i].At = 1000 + 7*i%13*100 + i
	}
	return c
}

// spelled are the tokens of signs: ( ) | . ^ $ * and bytes.
func spelled(p string) []api.Token {
	by := map[byte]api.Token{'(': open, ')': shut, '|': bar, '.': dot, '^': hat, '$': dollar, '*': star}
	var l []api.Token
	for i := range len(p) {
		t, is := by[p[i]]
		if !is {
			t = aByte(p[i])
		}
		l = append(l, t)
	}
	return placed(l...)
}

// refused are tokens that may not be.
func refused() []api.Token {
	return []api.Token{
		{}, {Kind: 10}, {Kind: -1}, {Kind: math.MaxInt}, {Kind: api.TkByte, Byte: 'a', At: -1}, {Kind: api.TkByte, Least: 1}, {Kind: api.TkClass}, {Kind: api.TkClass, Class: full, Not: true},
		{Kind: api.TkDot, Byte: 1}, {Kind: api.TkOpen, Not: true}, {Kind: api.TkOpen, At: -5}, {Kind: api.TkClose, Lazy: true}, {Kind: api.TkBar, Most: -1}, {Kind: api.TkHat, Class: raw('a')}, {Kind: api.TkHat, At: math.MinInt}, {Kind: api.TkDollar, Byte: '$'},
		aRepeat(2, 1), aRepeat(-1, -1), aRepeat(0, 1001), aRepeat(1001, -1), aLazy(0, -2),
	}
}

// Trees

// shape is a tree whose nodes hold their parts.
type shape struct {
	node api.Node // A and B are nothing here
	a, b *shape
}

func kindOf(kind int) *shape { return &shape{node: api.Node{Kind: kind}} }

func setOf(c api.Class) *shape { return &shape{node: api.Node{Kind: api.NdClass, Class: c}} }

func one(b byte) *shape { return setOf(raw(b)) }

// joined joins all of them from the left on.
func joined(kind int, l ...*shape) *shape {
	s := l[0]
	for _, b := range l[1:] {
		s = &shape{node: api.Node{Kind: kind}, a: s, b: b}
	}
	return s
}

func cat(l ...*shape) *shape { return joined(api.NdCat, l...) }

func alt(l ...*shape) *shape { return joined(api.NdAlt, l...) }

func rep(a *shape, least, most int) *shape {
	return &shape{node: api.Node{Kind: api.NdRep, Least: least, Most: most}, a: a}
}

func lazy(a *shape, least, most int) *shape {
	s := rep(a, least, most)
	s.node.Lazy = true
	return s
}

var (
	empty     = kindOf(api.NdEmpty)
	hatOf     = kindOf(api.NdHat)
	dollarOf  = kindOf(api.NdDollar)
	a, b, c   = one('a'), one('b'), one('c')
	noNewline = where(func(b byte) bool { return b != 10 })
)

// write puts s behind l.
func (s *shape) write(l []api.Node) []api.Node {
	n := s.node
	if s.a != nil {
		l = s.a.write(l)
		n.A = len(l) - 1
	}
	if s.b != nil {
		l = s.b.write(l)
		n.B = len(l) - 1
	}
	return append(l, n)
}

func (s *shape) nodes() []api.Node { return s.write(nil) }

// The grammar, read in another way: piece by piece, a group by a call of itself.

// piece is an item: a token or a group, and its repeat.
type piece struct {
	token   api.Token
	isGroup bool
	group   [][]piece
	repeat  *api.Token
}

// reader is tokens of which the first ones are read, and the first error.
type reader struct {
	left []api.Token
	at   int
	err  api.Errno
}

// peek is the next token, whose kind is 0 at the end, and behind an error.
func (r *reader) peek() api.Token {
	if len(r.left) == 0 || r.err != api.OK {
		return api.Token{}
	}
	if token.Check(r.left[0]) != api.OK {
		r.fail(0, api.ErrToken)
		return api.Token{}
	}
	return r.left[0]
}

func (r *reader) fail(at int, e api.Errno) {
	if r.err == api.OK {
		r.at, r.err = at, e
	}
}

func (r *reader) next() api.Token {
	t := r.peek()
	if t.Kind != 0 {
		r.left = r.left[1:]
	}
	return t
}

func (r *reader) alternatives() [][]piece {
	all := [][]piece{r.sequence()}
	for r.peek().Kind == api.TkBar {
		r.next()
		all = append(all, r.sequence())
	}
	return all
}

func (r *reader) sequence() []piece {
	var l []piece
	for {
		t := r.peek()
		switch t.Kind {
		case 0, api.TkBar, api.TkClose:
			return l
		case api.TkRepeat:
			r.fail(t.At, api.ErrRepeat) // what may have a repeat took it
			return l
		}
		l = append(l, r.item())
	}
}

func (r *reader) item() piece {
	p := piece{token: r.next()}
	switch p.token.Kind {
	case api.TkHat, api.TkDollar:
		return p
	case api.TkOpen:
		p.isGroup = true
		p.group = r.alternatives()
		if r.peek().Kind != api.TkClose {
			r.fail(p.token.At, api.ErrOpen)
			return p
		}
		r.next()
	}
	if r.peek().Kind == api.TkRepeat {
		t := r.next()
		p.repeat = &t
	}
	return p
}

// pieces are the alternatives of tokens, or the first error.
func pieces(l []api.Token) ([][]piece, int, api.Errno) {
	r := reader{left: l}
	all := r.alternatives()
	if t := r.peek(); t.Kind == api.TkClose {
		r.fail(t.At, api.ErrClose)
	}
	return all, r.at, r.err
}

// shapeOf is the tree of alternatives.
func shapeOf(all [][]piece, f api.Flags) *shape {
	var l []*shape
	for _, sequence := range all {
		items := []*shape{}
		for _, p := range sequence {
			items = append(items, p.shape(f))
		}
		if len(items) == 0 {
			items = append(items, empty)
		}
		l = append(l, cat(items...))
	}
	return alt(l...)
}

func (p piece) shape(f api.Flags) *shape {
	var s *shape
	if p.isGroup {
		s = shapeOf(p.group, f)
	} else {
		s = leafOf(p.token, f)
	}
	if p.repeat != nil {
		s = rep(s, p.repeat.Least, p.repeat.Most)
		s.node.Lazy = p.repeat.Lazy
	}
	return s
}

// leafOf is the leaf of a token that is one, byte by byte.
func leafOf(t api.Token, f api.Flags) *shape {
	switch t.Kind {
	case api.TkHat:
		return hatOf
	case api.TkDollar:
		return dollarOf
	case api.TkDot:
		return setOf(where(func(b byte) bool { return b != 10 || f.Dot }))
	case api.TkByte:
		return setOf(where(func(b byte) bool { return b == t.Byte || f.Case && b == other(t.Byte) }))
	}
	return setOf(where(func(b byte) bool {
		return (has(t.Class, b) || f.Case && has(t.Class, other(b))) != t.Not
	}))
}

// wrongAnchor is the place of the first anchor that cannot stand, and whether there is one, where an anchor of each kind may stand around these alternatives, or not.
func wrongAnchor(all [][]piece, hatMay, dollarMay bool) (int, bool) {
	for _, sequence := range all {
		for i, p := range sequence {
			hatHere := hatMay && i == 0 && p.repeat == nil
			dollarHere := dollarMay && i == len(sequence)-1 && p.repeat == nil
			if p.isGroup {
				if at, is := wrongAnchor(p.group, hatHere, dollarHere); is {
					return at, true
				}
			}
			if p.token.Kind == api.TkHat && !hatHere || p.token.Kind == api.TkDollar && !dollarHere {
				return p.token.At, true
			}
		}
	}
	return 0, false
}

// reference is what Tokens must answer.
func reference(f api.Flags, l []api.Token) ([]api.Node, int, api.Errno) {
	all, at, e := pieces(l)
	if e != api.OK {
		return nil, at, e
	}
	nodes := shapeOf(all, f).nodes()
	if len(nodes) > 2048 {
		return nil, 0, api.ErrNodes
	}
	if at, is := wrongAnchor(all, true, true); is {
		return nil, at, api.ErrAnchor
	}
	return nodes, 0, api.OK
}

// referenceAnchors is what Anchors must answer.
func referenceAnchors(l []api.Token) int {
	all, _, e := pieces(l)
	if e != api.OK {
		return -1
	}
	if at, is := wrongAnchor(all, true, true); is {
		return at
	}
	return -1
}

// compare fails unless Tokens and Anchors are what the reference tells, and answers its error.
func compare(t *testing.T, f api.Flags, l []api.Token) api.Errno {
	t.Helper()
	got, at, e := parse.Tokens(f, l...)
	want, wantAt, wantE := reference(f, l)
	if e != wantE || at != wantAt || !slices.Equal(got.Nodes, want) {
		t.Fatalf("%v, %v: %v, error %d at %d; not %v, error %d at %d", f, l, got, e, at, want, wantE, wantAt)
	}
	if got, want := parse.Anchors(l...), referenceAnchors(l); got != want {
		t.Fatalf("%v: the anchor at %d, not at %d", l, got, want)
	}
	return e
}

// Chance

// chance makes numbers of no order, always the same ones.
type chance uint64

func (c *chance) next() uint64 {
	*c = *c*6364136223846793005 + 1442695040888963407
	x := uint64(*c)
	return x ^ x>>33
}

func (c *chance) below(n int) int { return int((c.next() >> 8) % uint64(n)) }

func (c *chance) is() bool { return c.below(2) == 1 }

func (c *chance) flags() api.Flags {
	return api.Flags{Case: c.is(), Dot: c.is(), Multi: c.is(), Once: c.is(), Left: c.is()}
}

func (c *chance) class() api.Class {
	set := raw(byte(c.below(256)))
	for range c.below(6) {
		lo := byte(c.below(256))
		hi := lo + byte(c.below(30))
		set = where(func(b byte) bool { return has(set, b) || b >= lo && b <= hi })
	}
	return set
}

func (c *chance) repeat() api.Token {
	t := aRepeat(c.below(4), -1)
	if c.is() {
		t.Most = t.Least + c.below(3)
	}
	t.Lazy = c.is()
	return t
}

// token is a token that may be, of any kind.
func (c *chance) token() api.Token {
	switch c.below(9) {
	case 0:
		return open
	case 1:
		return shut
	case 2:
		return bar
	case 3:
		return c.repeat()
	case 4:
		return hat
	case 5:
		return dollar
	}
	return c.leaf()
}

// leaf is a token that is an atom by itself.
func (c *chance) leaf() api.Token {
	switch c.below(4) {
	case 0:
		return aClass(c.class())
	case 1:
		return aNot(c.class())
	case 2:
		return dot
	}
	return aByte(byte(c.below(256)))
}

// sound are tokens that are a tree of about so many items, with anchors where they may stand, and rarely elsewhere.
func (c *chance) sound(items int, hatMay, dollarMay bool) []api.Token {
	if items <= 1 {
		switch n := c.below(40); {
		case hatMay && n < 8 || n == 8:
			return []api.Token{hat}
		case dollarMay && n > 30 || n == 30:
			return []api.Token{dollar}
		case n == 9:
			return []api.Token{open, shut}
		case n == 10:
			return nil
		case n < 20:
			return []api.Token{c.leaf(), c.repeat()}
		}
		return []api.Token{c.leaf()}
	}
	first := 1 + c.below(items-1)
	switch c.below(6) {
	case 0:
		return slices.Concat(c.sound(first, hatMay, dollarMay), []api.Token{bar}, c.sound(items-first, hatMay, dollarMay))
	case 1:
		return slices.Concat([]api.Token{open}, c.sound(items-1, hatMay, dollarMay), []api.Token{shut})
	case 2:
		return slices.Concat([]api.Token{open}, c.sound(items-1, false, false), []api.Token{shut, c.repeat()})
	}
	return slices.Concat(c.sound(first, hatMay, false), c.sound(items-first, false, dollarMay))
}

// each goes through all texts of up to so many of these letters.
func each(letters string, most int, f func(p string)) {
	f("")
	if most == 0 {
		return
	}
	for i := range len(letters) {
		each(letters, most-1, func(p string) { f(letters[i:i+1] + p) })
	}
}

// patterns are patterns of all kinds, with an error and without one.
func patterns() []string {
	return []string{
		"", "a", "ab+c", "b+c", "a.{0,600}z", "a{2,}?[^x-z]$", "(?:ab|\\.)*?x{3}\\d[^\\n-].", "^(a|b(?:c))\\w+?$", "((((^a)b)c|d$))", "(|a)b", "||", "()()", "^|$",
		"a**", "(a", "a)", "a^", "*", "(*)", "a|*", "^*", "(^a)*", "$a", "a\\", "a[", "[z-a]", "x\\q", "(?", "(a*(b|(c",
		strings.Repeat("a", 1024), strings.Repeat("|", 1023), strings.Repeat("|", 1024), strings.Repeat("a", 1025), strings.Repeat("(", 512) + strings.Repeat(")", 512),
	}
}

// reads fails unless the pattern is read as the tree of this shape.
func reads(t *testing.T, p string, f api.Flags, want *shape) {
	t.Helper()
	got, at, e := parse.Parse([]byte(p), f)
	if e != api.OK || at != len(p) || !slices.Equal(got.Nodes, want.nodes()) {
		t.Errorf("%q: %v at %d, error %d; not %v", p, got, at, e, want.nodes())
	}
}

// isWrong fails unless the pattern has that error at that place.
func isWrong(t *testing.T, p string, at int, e api.Errno) {
	t.Helper()
	got, gotAt, gotE := parse.Parse([]byte(p), api.Flags{})
	if got.Nodes != nil || gotAt != at || gotE != e {
		t.Errorf("%q: %v, error %d at %d; not %d at %d", p, got, gotE, gotAt, e, at)
	}
}
