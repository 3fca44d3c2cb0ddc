package parse_test

import (
	"slices"
	"strings"
	"testing"

	"riddle/api"
	"riddle/parse"
	"riddle/token"
)

// refuses fails unless Tokens answers that error and that place, and nothing else.
func refuses(t *testing.T, at int, e api.Errno, l ...api.Token) {
	t.Helper()
	got, gotAt, gotE := parse.Tokens(api.Flags{}, l...)
	if got.Nodes != nil || gotAt != at || gotE != e {
		t.Errorf("%v: %v, error %d at %d; not %d at %d", l, got, gotE, gotAt, e, at)
	}
}

// takes fails unless Tokens answers the tree of this shape, and the place 0.
func takes(t *testing.T, want *shape, l ...api.Token) {
	t.Helper()
	got, at, e := parse.Tokens(api.Flags{}, l...)
	if e != api.OK || at != 0 || !slices.Equal(got.Nodes, want.nodes()) {
		t.Errorf("%v: %v at %d, error %d; not %v", l, got, at, e, want.nodes())
	}
}

// P6.2

func TestExamples(t *testing.T) {
	set := func(b byte) api.Node { return api.Node{Kind: api.NdClass, Class: raw(b)} }
	want := []api.Node{set('a'), set('b'), {Kind: api.NdRep, A: 1, Most: -1}, {Kind: api.NdAlt, A: 0, B: 2}}
	if x, at, e := parse.Parse([]byte("a|b*"), api.Flags{}); e != api.OK || at != 4 || !slices.Equal(x.Nodes, want) {
		t.Error(x, at, e)
	}
	isWrong(t, "a**", 2, api.ErrRepeat)
	isWrong(t, "(a", 0, api.ErrOpen)
	isWrong(t, "a^", 1, api.ErrAnchor)
}

func TestTokensOfNone(t *testing.T) {
	takes(t, empty)
	reads(t, "", api.Flags{}, empty)
}

func TestTokensOfOne(t *testing.T) {
	takes(t, a, aByte('a'))
	takes(t, setOf(raw('x', 'y')), aClass(raw('x', 'y')))
	takes(t, setOf(noNewline), dot)
	takes(t, hatOf, hat)
	takes(t, dollarOf, dollar)
	takes(t, alt(empty, empty), bar)
	refuses(t, 3, api.ErrOpen, api.Token{Kind: api.TkOpen, At: 3})
	refuses(t, 4, api.ErrClose, api.Token{Kind: api.TkClose, At: 4})
	refuses(t, 5, api.ErrRepeat, api.Token{Kind: api.TkRepeat, Most: -1, At: 5})
}

func TestSequences(t *testing.T) {
	reads(t, "ab", api.Flags{}, cat(a, b))
	reads(t, "abc", api.Flags{}, cat(cat(a, b), c))
	reads(t, "abca", api.Flags{}, cat(cat(cat(a, b), c), a))
	reads(t, "a(bc)", api.Flags{}, cat(a, cat(b, c)))
	reads(t, "(ab)c", api.Flags{}, cat(cat(a, b), c))
	reads(t, "a(b)c", api.Flags{}, cat(a, b, c))
	reads(t, "ab*c", api.Flags{}, cat(a, rep(b, 0, -1), c))
	reads(t, "a*b*", api.Flags{}, cat(rep(a, 0, -1), rep(b, 0, -1)))
}

func TestAlternatives(t *testing.T) {
	reads(t, "a|b", api.Flags{}, alt(a, b))
	reads(t, "a|b|c", api.Flags{}, alt(alt(a, b), c))
	reads(t, "a|b|c|a", api.Flags{}, alt(alt(alt(a, b), c), a))
	reads(t, "a|(b|c)", api.Flags{}, alt(a, alt(b, c)))
	reads(t, "(a|b)|c", api.Flags{}, alt(alt(a, b), c))
	reads(t, "ab|c", api.Flags{}, alt(cat(a, b), c))
	reads(t, "a|bc", api.Flags{}, alt(a, cat(b, c)))
	reads(t, "a(b|c)", api.Flags{}, cat(a, alt(b, c)))
	reads(t, "(a|b)c", api.Flags{}, cat(alt(a, b), c))
	reads(t, "a|b*", api.Flags{}, alt(a, rep(b, 0, -1)))
	reads(t, "(a|b)*", api.Flags{}, rep(alt(a, b), 0, -1))
}

func TestEmptySequences(t *testing.T) {
	reads(t, "|", api.Flags{}, alt(empty, empty))
	reads(t, "||", api.Flags{}, alt(alt(empty, empty), empty))
	reads(t, "a|", api.Flags{}, alt(a, empty))
	reads(t, "|a", api.Flags{}, alt(empty, a))
	reads(t, "a||b", api.Flags{}, alt(a, empty, b))
	reads(t, "(|a)b", api.Flags{}, cat(alt(empty, a), b))
	reads(t, "(a|)b", api.Flags{}, cat(alt(a, empty), b))
}

func TestEmptyGroups(t *testing.T) {
	reads(t, "()", api.Flags{}, empty)
	reads(t, "(?:)", api.Flags{}, empty)
	reads(t, "(())", api.Flags{}, empty)
	reads(t, "()()", api.Flags{}, cat(empty, empty))
	reads(t, "a()", api.Flags{}, cat(a, empty))
	reads(t, "()a", api.Flags{}, cat(empty, a))
	reads(t, "()*", api.Flags{}, rep(empty, 0, -1))
	reads(t, "()|()", api.Flags{}, alt(empty, empty))
	reads(t, "(|)", api.Flags{}, alt(empty, empty))
}

func TestRepeats(t *testing.T) {
	reads(t, "a{2,3}", api.Flags{}, rep(a, 2, 3))
	reads(t, "a{2,3}?", api.Flags{}, lazy(a, 2, 3))
	reads(t, "a{0}", api.Flags{}, rep(a, 0, 0))
	reads(t, "a{1}", api.Flags{}, rep(a, 1, 1))
	reads(t, "a{1000,}", api.Flags{}, rep(a, 1000, -1))
	reads(t, "a??", api.Flags{}, lazy(a, 0, 1))
	reads(t, ".+", api.Flags{}, rep(setOf(noNewline), 1, -1))
	reads(t, "[ab]*?", api.Flags{}, lazy(setOf(raw('a', 'b')), 0, -1))
	reads(t, "(a)*", api.Flags{}, rep(a, 0, -1))
	reads(t, "(ab)*", api.Flags{}, rep(cat(a, b), 0, -1))
	reads(t, "(a*)+", api.Flags{}, rep(rep(a, 0, -1), 1, -1))
	reads(t, "((a{2}){3}?){4}", api.Flags{}, rep(lazy(rep(a, 2, 2), 3, 3), 4, 4))
	reads(t, "(a*)b", api.Flags{}, cat(rep(a, 0, -1), b))
}

func TestRepeatsThatCannotStand(t *testing.T) {
	for _, r := range []string{"*", "+", "?", "{2}", "{2,}", "{0,3}", "*?", "{2}?"} {
		isWrong(t, r, 0, api.ErrRepeat)
		isWrong(t, r+"a", 0, api.ErrRepeat)
		isWrong(t, "(?:"+r+")", 3, api.ErrRepeat)
		isWrong(t, "a(?:"+r+"b)", 4, api.ErrRepeat)
		isWrong(t, "((?:"+r+"))", 4, api.ErrRepeat)
		isWrong(t, "|"+r, 1, api.ErrRepeat)
		isWrong(t, "ab|"+r, 3, api.ErrRepeat)
		isWrong(t, "(a|"+r+")", 3, api.ErrRepeat)
		isWrong(t, "^"+r, 1, api.ErrRepeat)
		isWrong(t, "$"+r, 1, api.ErrRepeat)
		isWrong(t, "(a$"+r+")", 3, api.ErrRepeat)
		// A ? that stands behind a repeat at once would belong to it: so these have theirs.
		isWrong(t, "a{3}?"+r, 5, api.ErrRepeat)
		isWrong(t, "(a*)*?"+r, 6, api.ErrRepeat)
		isWrong(t, "b|(^)a+?"+r+"c", 8, api.ErrRepeat)
	}
	isWrong(t, "(*)", 1, api.ErrRepeat)
	isWrong(t, "a**", 2, api.ErrRepeat)
	isWrong(t, "a{2}{3}", 4, api.ErrRepeat)
	isWrong(t, "a???", 3, api.ErrRepeat)
	isWrong(t, "(a)**", 4, api.ErrRepeat)
}

func TestClosesWithoutAGroup(t *testing.T) {
	isWrong(t, ")", 0, api.ErrClose)
	isWrong(t, "a)", 1, api.ErrClose)
	isWrong(t, "())", 2, api.ErrClose)
	isWrong(t, "(a|b))*", 5, api.ErrClose)
	isWrong(t, "a|)b", 2, api.ErrClose)
	isWrong(t, ")(", 0, api.ErrClose)
	isWrong(t, "(?:a)b)", 6, api.ErrClose)
	isWrong(t, "))", 0, api.ErrClose)
}

func TestGroupsThatDoNotEnd(t *testing.T) {
	isWrong(t, "(", 0, api.ErrOpen)
	isWrong(t, "((", 1, api.ErrOpen)
	isWrong(t, "(a(b(c", 4, api.ErrOpen)
	isWrong(t, "(a(b)(c", 5, api.ErrOpen)
	isWrong(t, "(a(b)c", 0, api.ErrOpen)
	isWrong(t, "(a(b(c)d)", 0, api.ErrOpen)
	isWrong(t, "(a)(b|c", 3, api.ErrOpen)
	isWrong(t, "ab(?:c*|(?:d)", 2, api.ErrOpen)
	isWrong(t, "(()", 0, api.ErrOpen)
}

// The first error from the left is told, whatever comes behind it.
func TestFirstError(t *testing.T) {
	isWrong(t, "*)", 0, api.ErrRepeat)
	isWrong(t, ")*", 0, api.ErrClose)
	isWrong(t, "(*", 1, api.ErrRepeat)
	isWrong(t, "(a**(", 3, api.ErrRepeat)
	isWrong(t, "a)**", 1, api.ErrClose)
	isWrong(t, "a^)", 2, api.ErrClose)
	isWrong(t, "a^(", 2, api.ErrOpen)
	isWrong(t, "a^*", 2, api.ErrRepeat)
	isWrong(t, "(a^b**", 5, api.ErrRepeat)
	isWrong(t, "(()))(**", 4, api.ErrClose)
}

func TestTokensThatMayNotBe(t *testing.T) {
	for _, x := range refused() {
		refuses(t, 0, api.ErrToken, x)
		refuses(t, 0, api.ErrToken, append(spelled("a(b"), x)...)
		refuses(t, 0, api.ErrToken, append([]api.Token{x}, spelled("a**)")...)...)
		// Behind another error, and ahead of one.
		l := spelled("ab**)(")
		refuses(t, l[3].At, api.ErrRepeat, append(slices.Clone(l), x)...)
		refuses(t, l[3].At, api.ErrRepeat, slices.Insert(slices.Clone(l), 4, x)...)
		refuses(t, 0, api.ErrToken, slices.Insert(slices.Clone(l), 3, x)...)
		refuses(t, 0, api.ErrToken, slices.Insert(slices.Clone(l), 2, x)...)
		shuts := spelled("a)b")
		refuses(t, shuts[1].At, api.ErrClose, append(slices.Clone(shuts), x)...)
		refuses(t, 0, api.ErrToken, slices.Insert(slices.Clone(shuts), 1, x)...)
		// A group that does not end, and an anchor that cannot stand, are told at the end.
		refuses(t, 0, api.ErrToken, append(spelled("a^(b$c"), x)...)
	}
	refuses(t, 0, api.ErrToken, api.Token{Kind: api.TkRepeat, Least: 2, Most: 1, At: 9})
	refuses(t, 0, api.ErrToken, api.Token{Kind: api.TkClose, Byte: 1, At: 9})
}

// aLot are tokens of a tree of that many nodes: letters in a row, the first one with a repeat if it must be.
func aLot(nodes int) []api.Token {
	l := slices.Repeat([]api.Token{aByte('a')}, (nodes+1)/2)
	if nodes%2 == 0 {
		l = slices.Insert(l, 1, star)
	}
	return placed(l...)
}

func TestManyNodes(t *testing.T) {
	for _, n := range []int{1, 2, 3, 2046, 2047, 2048} {
		x, at, e := parse.Tokens(api.Flags{}, aLot(n)...)
		if e != api.OK || at != 0 || len(x.Nodes) != n {
			t.Errorf("%d: %d nodes at %d, error %d", n, len(x.Nodes), at, e)
		}
		compare(t, api.Flags{}, aLot(n))
	}
	for _, n := range []int{2049, 2050, 2051, 3000, 100000} {
		refuses(t, 0, api.ErrNodes, aLot(n)...)
	}
	isWrong(t, strings.Repeat("|", 1024), 0, api.ErrNodes)
	if x, at, e := parse.Parse([]byte(strings.Repeat("|", 1023)), api.Flags{}); e != api.OK || at != 1023 || len(x.Nodes) != 2047 {
		t.Error(len(x.Nodes), at, e)
	}
	if x, at, e := parse.Parse([]byte(strings.Repeat("a", 1024)), api.Flags{}); e != api.OK || at != 1024 || len(x.Nodes) != 2047 {
		t.Error(len(x.Nodes), at, e)
	}
	// Groups are no nodes.
	deep := placed(slices.Concat(slices.Repeat([]api.Token{open}, 5000), aLot(2048), slices.Repeat([]api.Token{shut}, 5000))...)
	if x, _, e := parse.Tokens(api.Flags{}, deep...); e != api.OK || len(x.Nodes) != 2048 {
		t.Error(len(x.Nodes), e)
	}
}

// What is told token by token, and a group that does not end, comes ahead of ErrNodes; an anchor behind it.
func TestManyNodesAndOtherErrors(t *testing.T) {
	most, more := aLot(2048), aLot(2049)
	for _, x := range []struct {
		p    string
		last int
		e    api.Errno
	}{{"b**", 2, api.ErrRepeat}, {"|*", 1, api.ErrRepeat}, {"^*", 1, api.ErrRepeat}, {"b)", 1, api.ErrClose}, {"(b(", 2, api.ErrOpen}} {
		l := spelled(x.p)
		refuses(t, l[x.last].At, x.e, append(slices.Clone(more), l...)...)
	}
	refuses(t, 0, api.ErrToken, append(slices.Clone(more), api.Token{})...)
	a := api.Token{Kind: api.TkHat, At: 4}
	refuses(t, 0, api.ErrNodes, append(slices.Clone(more), a)...)
	refuses(t, 0, api.ErrNodes, append(slices.Clone(most), a)...)
	refuses(t, 0, api.ErrNodes, append([]api.Token{dollar}, more...)...)
	refuses(t, 4, api.ErrAnchor, append(slices.Clone(most[:len(most)-1]), a)...)
	isWrong(t, "a^"+strings.Repeat("b", 1022), 1, api.ErrAnchor)
}

// Case and Dot alone count.
func TestFlags(t *testing.T) {
	for _, f := range allFlags() {
		both := raw('a')
		if f.Case {
			both = raw('a', 'A')
		}
		noB := where(func(b byte) bool { return b != 'B' && !(f.Case && b == 'b') })
		any := noNewline
		if f.Dot {
			any = full
		}
		reads(t, "^(a|[^B]*).$", f, cat(hatOf, alt(setOf(both), rep(setOf(noB), 0, -1)), setOf(any), dollarOf))
	}
}

func TestParseOfWrongPatterns(t *testing.T) {
	for _, p := range patterns() {
		_, at, e := token.Lex([]byte(p))
		if e == api.OK {
			continue
		}
		isWrong(t, p, at, e)
		// What can't be cut is told ahead of what can't be read.
		if e != api.ErrLong {
			isWrong(t, "*("+p, at+2, e)
		}
	}
	isWrong(t, "a**\\q", 3, api.ErrEscape)
	isWrong(t, "a)[", 2, api.ErrClass)
	isWrong(t, ")(?=", 1, api.ErrGroup)
	isWrong(t, "*{", 1, api.ErrCount)
	isWrong(t, ")[z-a]", 2, api.ErrRange)
	isWrong(t, "a**"+strings.Repeat("a", 1022), 0, api.ErrLong)
}

// The place of an error is one of the pattern, not of a token in the list.
func TestPlacesOfPatterns(t *testing.T) {
	isWrong(t, `\x41[^a-z]{2,3}*`, 15, api.ErrRepeat)
	isWrong(t, `\x41[^a-z])`, 10, api.ErrClose)
	isWrong(t, `\x41[^a-z](?:`, 10, api.ErrOpen)
	isWrong(t, `\x41[^a-z]^`, 10, api.ErrAnchor)
	isWrong(t, `(?:$)\x41`, 3, api.ErrAnchor)
	reads(t, `\x41[^a-z]{2,3}`, api.Flags{}, cat(one('A'), rep(setOf(where(func(b byte) bool { return b < 'a' || b > 'z' })), 2, 3)))
}

// All of it, held against the grammar that is read in another way

func TestAllShortLists(t *testing.T) {
	by := map[api.Errno]int{}
	each("a()|*^$", 6, func(p string) {
		by[compare(t, api.Flags{}, spelled(p))]++
	})
	for _, e := range []api.Errno{api.OK, api.ErrRepeat, api.ErrClose, api.ErrOpen, api.ErrAnchor} {
		if by[e] < 1000 {
			t.Errorf("only %d have the error %d", by[e], e)
		}
	}
}

func TestAllShortListsWithOneThatMayNotBe(t *testing.T) {
	each("a()|*^$!", 4, func(p string) {
		l := spelled(p)
		for i := range l {
			if l[i].Kind == api.TkByte && l[i].Byte == '!' {
				l[i].Not = true
			}
		}
		compare(t, api.Flags{}, l)
	})
}

// Patterns are read as their tokens are.
func TestAllShortPatterns(t *testing.T) {
	each("a()|?^$[", 5, func(p string) {
		x, at, e := parse.Parse([]byte(p), api.Flags{})
		l, wantAt, wantE := token.Lex([]byte(p))
		var want []api.Node
		if wantE == api.OK {
			want, wantAt, wantE = reference(api.Flags{}, l)
		}
		if wantE == api.OK {
			wantAt = len(p)
		}
		if e != wantE || at != wantAt || !slices.Equal(x.Nodes, want) {
			t.Fatalf("%q: %v, error %d at %d; not %v, error %d at %d", p, x, e, at, want, wantE, wantAt)
		}
	})
}

func TestListsOfNoOrder(t *testing.T) {
	c := chance(2)
	by := map[api.Errno]int{}
	for range 30000 {
		var l []api.Token
		for range c.below(12) {
			l = append(l, c.token())
		}
		by[compare(t, c.flags(), placed(l...))]++
	}
	for _, e := range []api.Errno{api.OK, api.ErrRepeat, api.ErrClose, api.ErrOpen, api.ErrAnchor} {
		if by[e] < 100 {
			t.Errorf("only %d have the error %d", by[e], e)
		}
	}
}

func TestListsOfTheGrammar(t *testing.T) {
	c := chance(3)
	by := map[api.Errno]int{}
	longest := 0
	for range 4000 {
		l := placed(c.sound(1+c.below(1+c.below(120)), true, true)...)
		e := compare(t, c.flags(), l)
		by[e]++
		if e == api.OK {
			longest = max(longest, len(l))
		}
	}
	if by[api.OK] < 1000 || by[api.ErrAnchor] < 300 || longest < 100 {
		t.Errorf("%v, the longest one has %d tokens", by, longest)
	}
}

// One token of a sound list is taken out, or another one comes in.
func TestDamagedLists(t *testing.T) {
	c := chance(4)
	bad := refused()
	for range 6000 {
		l := c.sound(1+c.below(30), true, true)
		at := c.below(len(l) + 1)
		switch c.below(3) {
		case 0:
			l = slices.Insert(l, at, c.token())
		case 1:
			l = slices.Insert(l, at, bad[c.below(len(bad))])
		default:
			l = slices.Delete(l, min(at, max(len(l)-1, 0)), min(at+1, len(l)))
		}
		wasBad := slices.ContainsFunc(l, func(t api.Token) bool { return token.Check(t) != api.OK })
		if !wasBad {
			l = placed(l...)
		}
		compare(t, c.flags(), l)
	}
}

// A list is not bound by the length of a pattern, nor by a depth.
func TestGreatLists(t *testing.T) {
	const many = 1 << 16
	deep := slices.Concat(slices.Repeat([]api.Token{open}, many), []api.Token{aByte('a')}, slices.Repeat([]api.Token{shut}, many))
	takes(t, a, deep...)
	deep[many] = hat
	takes(t, hatOf, deep...)
	anchor := parse.Anchors(append(slices.Clone(deep), star)...)
	if anchor != 0 {
		t.Error("an anchor deep in groups with a repeat:", anchor)
	}
	refuses(t, 0, api.ErrOpen, deep[:len(deep)-1]...)
	refuses(t, 0, api.ErrNodes, slices.Repeat([]api.Token{bar}, 1<<19)...)
	refuses(t, 8, api.ErrClose, append(slices.Repeat([]api.Token{aByte('a')}, 1<<19), api.Token{Kind: api.TkClose, At: 8})...)
}
