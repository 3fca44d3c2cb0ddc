package literal_test

import (
	"fmt"
	"math"
	"slices"
	"testing"

	"riddle/api"
	"riddle/literal"
	"riddle/normal"
)

// given is what calls are handed.
type given struct {
	c    api.Class
	l    api.Letter
	a, b api.Literal
	w    []byte
	at   int
	x    api.Tree
}

// sorts are arguments of all sorts, such that may be and such that may not.
func sorts() []given {
	var l []given
	r := chance(61)
	trees := unfit()
	for _, s := range plain() {
		trees = append(trees, s.tree())
	}
	letters := allLetters()
	for i, x := range trees {
		a, b := r.literal(5, "aAb[\x00", true), r.literal(20, "ab", i%2 == 0)
		c := raw(r.text(3, "AaBb[{\x00\xff")...)
		l = append(l, given{c, letters[i%len(letters)], a, b, r.text(12, "aAb"), -2 + r.below(16), x})
	}
	for _, at := range far {
		l = append(l, given{at: at}, given{full, api.Letter{Byte: 'z', Fold: true}, lit("ab"), nil, []byte("abab"), at, word("abc").tree()})
	}
	return l
}

// answers are the literals that the calls answer for these arguments, and all else that they say.
type answers struct {
	literals []api.Literal
	said     string
}

func asked(g given) answers {
	var out answers
	l, is := literal.Letter(g.c)
	said := fmt.Sprint(l, is, literal.Class(g.l), literal.Is(g.l, 'a'), literal.Is(g.l, 0), literal.Check(g.a), literal.Check(g.b), literal.At(g.a, g.w, g.at), literal.At(g.b, g.w, g.at), literal.Same(g.a, g.b), literal.Same(g.b, g.b))
	said += fmt.Sprint(slices.Collect(literal.Places(g.a, g.w)), slices.Collect(literal.Places(g.b, g.w)))
	best, first, has := literal.Best(g.x)
	said += fmt.Sprint(first, has)
	out.literals = append(out.literals, best)
	runs := literal.Runs(g.x)
	// Twice, as what a range tells is nobody else's either.
	for range 2 {
		for first, letters := range runs {
			said += fmt.Sprint(" ", first)
			out.literals = append(out.literals, letters)
		}
	}
	out.said = said
	return out
}

func copyOfAnswers(a answers) answers {
	a.literals = slices.Clone(a.literals)
	for i, l := range a.literals {
		a.literals[i] = slices.Clone(l)
	}
	return a
}

func equalAnswers(a, b answers) bool {
	return slices.EqualFunc(a.literals, b.literals, sameLiteral) && a.said == b.said
}

// copyOf is g in memory of its own.
func copyOf(g given) given {
	g.a, g.b, g.w = slices.Clone(g.a), slices.Clone(g.b), slices.Clone(g.w)
	g.x.Nodes = slices.Clone(g.x.Nodes)
	return g
}

// wide is a copy of l whose memory goes on behind it, filled with what is nowhere else.
func wide[T any](l []T, fill T) []T {
	w := append(slices.Clone(l), fill, fill, fill)
	return w[:len(l)]
}

// guarded is g in greater memory, so that what is written behind its lists is seen, too.
func guarded(g given) given {
	odd := api.Letter{Byte: 77, Fold: true}
	g.a, g.b, g.w = wide(g.a, odd), wide(g.b, odd), wide(g.w, 77)
	g.x.Nodes = wide(g.x.Nodes, api.Node{Kind: 77})
	return g
}

// whole is g up to the ends of its memory.
func whole(g given) given {
	g.a, g.b, g.w = g.a[:cap(g.a)], g.b[:cap(g.b)], g.w[:cap(g.w)]
	g.x.Nodes = g.x.Nodes[:cap(g.x.Nodes)]
	return g
}

func equalGiven(a, b given) bool {
	return a.c == b.c && a.l == b.l && a.at == b.at && sameLiteral(a.a, b.a) && sameLiteral(a.b, b.b) && slices.Equal(a.w, b.w) && slices.Equal(a.x.Nodes, b.x.Nodes)
}

func fill[T any](l []T, with T) {
	for i := range l {
		l[i] = with
	}
}

// scribble writes to all memory of g.
func scribble(g given) {
	fill(g.a, api.Letter{Byte: '?'})
	fill(g.b, api.Letter{Byte: '?'})
	fill(g.w, '?')
	fill(g.x.Nodes, api.Node{Kind: api.NdClass, Class: raw('?')})
}

func scribbleLiteral(l api.Literal) { fill(l[:cap(l)], api.Letter{Byte: '!', Fold: true}) }

// R1

// calls fails unless the calls answer what the chapter's words do of any arguments but trees.
func calls(t *testing.T, g given) {
	t.Helper()
	heldLetter(t, g.c)
	if literal.Class(g.l) != raw(takes(g.l)...) {
		t.Fatalf("%v: Class", g.l)
	}
	for _, b := range []byte{'a', 'A', '[', 0, 255} {
		if literal.Is(g.l, b) != is(g.l, b) {
			t.Fatalf("%v: Is %d", g.l, b)
		}
	}
	for _, l := range []api.Literal{g.a, g.b} {
		if (literal.Check(l) == api.OK) != may(l) {
			t.Fatalf("%s: Check", show(l))
		}
		if literal.At(l, g.w, g.at) != standsAt(l, g.w, g.at) {
			t.Fatalf("%s, %q, %d: At", show(l), g.w, g.at)
		}
		isPlaces(t, l, g.w, placesOf(l, g.w))
	}
	if literal.Same(g.a, g.b) != sameLiteral(g.a, g.b) {
		t.Fatalf("%s, %s: Same", show(g.a), show(g.b))
	}
}

func TestNoCallPanics(t *testing.T) {
	for _, g := range sorts() {
		calls(t, g)
	}
	r := chance(62)
	found := 0
	for range 20000 {
		x := r.spoiled()
		g := given{api.Class{r.next(), r.next(), r.next(), r.next()}, api.Letter{Byte: byte(r.below(256)), Fold: r.is()}, r.literal(3, "aA[", true), r.literal(3, "aA[", true), r.text(6, "aA["), r.number(), x}
		calls(t, g)
		if runs := runsOf(x); len(runs) > 0 {
			found++
			if !normal.Is(x) {
				t.Fatalf("%s: %v", text(x), runs)
			}
		}
		literal.Best(x)
	}
	if found < 2000 {
		t.Error(found)
	}
}

func (c *chance) number() int {
	l := []int{math.MinInt, math.MinInt + 1, -2, -1, 0, 0, 1, 2, 3, 4, 1000, math.MaxInt - 1, math.MaxInt}
	return l[c.below(len(l))]
}

// spoiled are nodes of which one or two are other ones than in a tree, or none at all.
func (c *chance) spoiled() api.Tree {
	x := c.sequence(1 + c.below(8)).tree()
	for range c.below(3) {
		n := &x.Nodes[c.below(len(x.Nodes))]
		switch c.below(6) {
		case 0:
			n.Kind = c.below(9)
		case 1:
			n.A = c.number()
		case 2:
			n.B = c.number()
		case 3:
			n.Least, n.Most = c.number(), c.number()
		case 4:
			n.Class = raw(c.text(2, "aA")...)
		default:
			n.Lazy = true
		}
	}
	if c.below(9) == 0 {
		x.Nodes = x.Nodes[:c.below(len(x.Nodes))]
	}
	return x
}

// R2: beside a false, and where there is nothing, all else is zero.
func TestNothingBesideAFalse(t *testing.T) {
	for _, g := range sorts() {
		if l, is := literal.Letter(g.c); !is && l != (api.Letter{}) {
			t.Errorf("%q: %v", bytesIn(g.c), l)
		}
		if l, first, is := literal.Best(g.x); !is && (l != nil || first != 0) || is && len(l) < 2 {
			t.Errorf("%s: %v %d", text(g.x), l, first)
		}
		for _, l := range literal.Runs(g.x) {
			if len(l) == 0 {
				t.Errorf("%s: a run of no letters", text(g.x))
			}
		}
	}
}

// R3

func TestArgumentsAreTheirOwners(t *testing.T) {
	for _, g := range sorts() {
		x := guarded(g)
		was := copyOf(whole(x))
		a := asked(x)
		if !equalGiven(whole(x), was) {
			t.Fatalf("%v: written to", g)
		}
		kept := copyOfAnswers(a)
		scribble(whole(x))
		if !equalAnswers(a, kept) {
			t.Fatalf("%v: an answer changes with its arguments", g)
		}
	}
}

// What is written into an answer is neither in an argument nor in another answer.
func TestAnswersAreApart(t *testing.T) {
	for _, g := range sorts() {
		x := guarded(g)
		was := copyOf(whole(x))
		a, b := asked(x), asked(x)
		kept := copyOfAnswers(b)
		for i, l := range a.literals {
			scribbleLiteral(l)
			if i+1 < len(a.literals) && !equalAnswers(answers{literals: a.literals[i+1:]}, answers{literals: b.literals[i+1:]}) {
				t.Fatalf("%v: literals share memory", g)
			}
		}
		if !equalAnswers(b, kept) {
			t.Fatalf("%v: answers share memory", g)
		}
		if !equalGiven(whole(x), was) {
			t.Fatalf("%v: an answer shares memory with its arguments", g)
		}
		if !equalAnswers(asked(x), kept) {
			t.Fatalf("%v: other answers once those ahead are written to", g)
		}
	}
}

// What was told in a range may be written to as the range goes on, and ahead of another one.
func TestRunsAreTheirOwners(t *testing.T) {
	for _, s := range plain() {
		all := literal.Runs(s.tree())
		for range 2 {
			var got []run
			for first, letters := range all {
				got = append(got, run{first: first, letters: slices.Clone(letters)})
				scribbleLiteral(letters)
			}
			isRuns(t, text(s.tree()), got, s.runs())
		}
	}
}

// R4

func TestNilAndEmptyLists(t *testing.T) {
	for _, w := range [][]byte{nil, {}, []byte("ab")} {
		for _, l := range []api.Literal{nil, {}} {
			if literal.Check(l) != api.ErrLiteral || !literal.At(l, w, len(w)) || literal.At(l, w, len(w)+1) || !literal.Same(l, nil) || !literal.Same(l, api.Literal{}) {
				t.Error(l, w)
			}
			isPlaces(t, l, w, placesOf(nil, w))
		}
	}
	isPlaces(t, lit("a"), nil, nil)
	isPlaces(t, lit("a"), []byte{}, nil)
	for _, x := range []api.Tree{{}, {Nodes: []api.Node{}}} {
		isRuns(t, "no nodes", runsOf(x), nil)
		bestIs(t, x, -1)
	}
}

// R5: a literal that no call made is one of no letters, which Check refuses; a letter that no call made is the byte 0, and a tree has no runs.
func TestZeroValues(t *testing.T) {
	var l api.Literal
	if e := literal.Check(l); e != api.ErrLiteral {
		t.Error(e)
	}
	if c := literal.Class(api.Letter{}); c != raw(0) {
		t.Error(c)
	}
	if !literal.Is(api.Letter{}, 0) || literal.Is(api.Letter{}, 1) {
		t.Error("Is")
	}
	if l, is := literal.Letter(api.Class{}); is || l != (api.Letter{}) {
		t.Error(l, is)
	}
	if l, first, is := literal.Best(api.Tree{}); is || l != nil || first != 0 {
		t.Error(l, first, is)
	}
}

// R6

func TestSameCallsAnswerTheSame(t *testing.T) {
	for _, g := range sorts() {
		if !equalAnswers(asked(g), asked(copyOf(g))) {
			t.Fatalf("%v: other answers", g)
		}
	}
}
