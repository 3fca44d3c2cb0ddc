package parse_test

import (
	"math"
	"slices"
	"strings"
	"testing"

	"riddle/api"
	"riddle/parse"
	"riddle/token"
)

// R1

func TestNoCallPanics(t *testing.T) {
	edges := []int{math.MinInt, -1, 0, 1, 1000, 1001, math.MaxInt}
	c := chance(7)
	for range 5000 {
		var l []api.Token
		for range c.below(6) {
			l = append(l, api.Token{Kind: c.below(12) - 1, Byte: byte(c.below(2)), Class: raw(byte(c.below(256))), Not: c.is(), Least: edges[c.below(7)], Most: edges[c.below(7)], Lazy: c.is(), At: edges[c.below(7)]})
		}
		parse.Tokens(c.flags(), l...)
		parse.Anchors(l...)
		for _, x := range l {
			parse.Leaf(x, c.flags())
		}
	}
	for _, x := range refused() {
		parse.Leaf(x, api.Flags{Case: true})
	}
	for range 5000 {
		p := make([]byte, c.below(30))
		for i := range p {
			p[i] = byte(c.next() >> 20)
			if c.is() {
				p[i] = "()|*+?^$.a{2}[]"[c.below(15)]
			}
		}
		if _, at, e := parse.Parse(p, c.flags()); at < 0 || at > len(p) || e != api.OK && at == len(p) && len(p) > 0 {
			t.Fatalf("%q: error %d at %d", p, e, at)
		}
	}
	for _, p := range patterns() {
		for i := range len(p) {
			parse.Parse([]byte(p[i:]), api.Flags{})
		}
	}
}

// R2

func TestNothingBesideAnError(t *testing.T) {
	for _, p := range []string{"a**", "a)", "(a", "a^", "a\\", "[z-a]", strings.Repeat("|", 1024), strings.Repeat("a", 1025)} {
		if x, _, e := parse.Parse([]byte(p), api.Flags{}); e == api.OK || x.Nodes != nil {
			t.Errorf("%q: %v, error %d", p, x, e)
		}
	}
	for _, l := range [][]api.Token{{{}}, spelled("a**"), spelled("a)"), spelled("(a"), spelled("a^"), aLot(2049)} {
		if x, _, e := parse.Tokens(api.Flags{}, l...); e == api.OK || x.Nodes != nil {
			t.Errorf("%v: %v, error %d", l, x, e)
		}
	}
	if n, is := parse.Leaf(bar, api.Flags{}); is || n != (api.Node{}) {
		t.Error(n)
	}
}

// R3

func TestPatternsAreTheirOwners(t *testing.T) {
	for _, x := range patterns() {
		// What is written behind the pattern is seen, too.
		memory := append([]byte(x), slices.Repeat([]byte{170}, 64)...)
		was := slices.Clone(memory)
		got, _, _ := parse.Parse(memory[:len(x)], api.Flags{})
		if !slices.Equal(memory, was) {
			t.Fatalf("%q was written to", x)
		}
		kept := slices.Clone(got.Nodes)
		clear(memory)
		if !slices.Equal(got.Nodes, kept) {
			t.Fatalf("%q: the tree changes with it", x)
		}
	}
}

// lists are lists of tokens that are a tree, and that are none.
func lists() [][]api.Token {
	l := [][]api.Token{nil, aLot(2048), aLot(2049)}
	for _, p := range patterns() {
		x, _, _ := token.Lex([]byte(p))
		l = append(l, x)
	}
	for _, x := range refused() {
		l = append(l, []api.Token{aByte('a'), x})
	}
	return l
}

func TestTokensAreTheirOwners(t *testing.T) {
	for _, l := range lists() {
		memory := append(slices.Clone(l), slices.Repeat([]api.Token{{Kind: 77}}, 8)...)
		was := slices.Clone(memory)
		got, _, _ := parse.Tokens(api.Flags{Case: true}, memory[:len(l)]...)
		parse.Anchors(memory[:len(l)]...)
		if !slices.Equal(memory, was) {
			t.Fatalf("%v was written to", l)
		}
		kept := slices.Clone(got.Nodes)
		clear(memory)
		if !slices.Equal(got.Nodes, kept) {
			t.Fatalf("%v: the tree changes with it", l)
		}
	}
}

func TestAnswersAreApart(t *testing.T) {
	for _, l := range lists() {
		x, _, e := parse.Tokens(api.Flags{}, l...)
		y, _, _ := parse.Tokens(api.Flags{}, l...)
		kept := slices.Clone(y.Nodes)
		for i := range x.Nodes[:cap(x.Nodes)] {
			x.Nodes[:cap(x.Nodes)][i] = api.Node{Kind: 99}
		}
		z, _, _ := parse.Tokens(api.Flags{}, l...)
		if !slices.Equal(y.Nodes, kept) || !slices.Equal(z.Nodes, kept) {
			t.Fatalf("%v: trees share memory", l)
		}
		if e == api.OK && len(kept) == 0 {
			t.Fatalf("%v: a tree of no node", l)
		}
	}
}

// R4

func TestNilAndEmptyLists(t *testing.T) {
	for _, l := range [][]api.Token{nil, {}} {
		takes(t, empty, l...)
		if at := parse.Anchors(l...); at != -1 {
			t.Error("Anchors:", at)
		}
	}
	for _, p := range [][]byte{nil, {}} {
		if x, at, e := parse.Parse(p, api.Flags{}); e != api.OK || at != 0 || !slices.Equal(x.Nodes, empty.nodes()) {
			t.Error("Parse:", x, at, e)
		}
	}
}

// R5

func TestTheZeroToken(t *testing.T) {
	refuses(t, 0, api.ErrToken, api.Token{})
	if at := parse.Anchors(api.Token{}); at != -1 {
		t.Error("Anchors:", at)
	}
	if n, is := parse.Leaf(api.Token{}, api.Flags{}); is || n != (api.Node{}) {
		t.Error("Leaf:", n)
	}
}

// R6

func TestSameCallsAnswerTheSame(t *testing.T) {
	for _, l := range lists() {
		x, at, e := parse.Tokens(api.Flags{Dot: true}, l...)
		y, atY, eY := parse.Tokens(api.Flags{Dot: true}, l...)
		if !slices.Equal(x.Nodes, y.Nodes) || at != atY || e != eY || parse.Anchors(l...) != parse.Anchors(l...) {
			t.Fatalf("%v: another answer", l)
		}
	}
	for _, p := range patterns() {
		x, at, e := parse.Parse([]byte(p), api.Flags{})
		y, atY, eY := parse.Parse([]byte(p), api.Flags{})
		if !slices.Equal(x.Nodes, y.Nodes) || at != atY || e != eY {
			t.Fatalf("%q: another answer", p)
		}
	}
}
