package meaning_test

import (
	"fmt"
	"math"
	"regexp"
	"slices"
	"strings"
	"testing"

	"riddle/api"
	"riddle/meaning"
	"riddle/tree"
)

// What the tests hold the package against is made here without a call of the package.

func raw(l ...byte) api.Class {
	var c api.Class
	for _, b := range l {
		c[b/64] |= 1 << (b % 64)
	}
	return c
}

func has(c api.Class, b byte) bool { return c[b/64]>>(b%64)&1 == 1 }

// shape is a tree whose nodes hold their parts.
type shape struct {
	node api.Node // A and B are nothing here
	a, b *shape
}

func aKind(kind int) *shape { return &shape{node: api.Node{Kind: kind}} }

func set(l ...byte) *shape { return &shape{node: api.Node{Kind: api.NdClass, Class: raw(l...)}} }

func pair(kind int, a, b *shape) *shape { return &shape{node: api.Node{Kind: kind}, a: a, b: b} }

// cat and alt join two or more, from the left on.
func cat(first *shape, l ...*shape) *shape {
	for _, s := range l {
		first = pair(api.NdCat, first, s)
	}
	return first
}

func alt(first *shape, l ...*shape) *shape {
	for _, s := range l {
		first = pair(api.NdAlt, first, s)
	}
	return first
}

func rep(a *shape, least, most int) *shape {
	return &shape{node: api.Node{Kind: api.NdRep, Least: least, Most: most}, a: a}
}

func lazy(a *shape, least, most int) *shape {
	s := rep(a, least, most)
	s.node.Lazy = true
	return s
}

func star(a *shape) *shape { return rep(a, 0, -1) }

var (
	empty   = aKind(api.NdEmpty)
	hat     = aKind(api.NdHat)
	dollar  = aKind(api.NdDollar)
	never   = set()
	a, b, c = set('a'), set('b'), set('c')
	ab      = set('a', 'b')
	line    = set('\n')
	full    = &shape{node: api.Node{Kind: api.NdClass, Class: api.Class{math.MaxUint64, math.MaxUint64, math.MaxUint64, math.MaxUint64}}}
)

// write puts s behind l.
func (s *shape) write(l []api.Node) []api.Node {
	n := s.node
	if s.a != nil {
		l = s.a.write(l)
		n.A = len(l) - 1
	}
	if s.b != nil {
		l = s.b.write(l)
		n.B = len(l) - 1
	}
	return append(l, n)
}

func (s *shape) tree() api.Tree { return api.Tree{Nodes: s.write(nil)} }

// String is the shape as a pattern of package regexp, which has the same bounds of repeats.
func (s *shape) String() string {
	switch s.node.Kind {
	case api.NdClass:
		text := "["
		for n := range 128 {
			if has(s.node.Class, byte(n)) {
				text += fmt.Sprintf(`\x%02x`, n)
			}
		}
		if text == "[" {
			return `[^\x00-\x{10ffff}]`
		}
		return text + "]"
	case api.NdCat:
		return "(?:" + s.a.String() + s.b.String() + ")"
	case api.NdAlt:
		return "(?:" + s.a.String() + "|" + s.b.String() + ")"
	case api.NdRep:
		most := ""
		if s.node.Most >= 0 {
			most = fmt.Sprint(s.node.Most)
		}
		return fmt.Sprintf("(?:%v{%d,%s})", s.a, s.node.Least, most)
	case api.NdHat:
		return "^"
	case api.NdDollar:
		return "$"
	}
	return "(?:)"
}

// matches asks package regexp, with the text around the span left as it is, so that the anchors see it.
func (s *shape) matches(t *testing.T, multi bool, w string, i, j int) bool {
	t.Helper()
	flag := ""
	if multi {
		flag = "(?m)"
	}
	p, e := regexp.Compile(fmt.Sprintf(`%s\A(?s:.{%d})%s(?s:.{%d})\z`, flag, i, s, len(w)-j))
	if e != nil {
		t.Fatal(e)
	}
	return p.MatchString(w)
}

// span is of a part of a shape.
type span struct {
	s    *shape
	i, j int
}

// reader takes the chapter's words as they stand, span by span; known are the answers that came.
type reader struct {
	w     string
	multi bool
	known map[span]bool
}

func read(multi bool, w string) *reader { return &reader{w, multi, map[span]bool{}} }

func (r *reader) means(s *shape, i, j int) bool {
	is, came := r.known[span{s, i, j}]
	if !came {
		is = r.look(s, i, j)
		r.known[span{s, i, j}] = is
	}
	return is
}

func (r *reader) look(s *shape, i, j int) bool {
	switch s.node.Kind {
	case api.NdEmpty:
		return i == j
	case api.NdClass:
		return j == i+1 && has(s.node.Class, r.w[i])
	case api.NdHat:
		return i == j && (i == 0 || r.multi && r.w[i-1] == 10)
	case api.NdDollar:
		return i == j && (i == len(r.w) || r.multi && r.w[i] == 10)
	case api.NdAlt:
		return r.means(s.a, i, j) || r.means(s.b, i, j)
	case api.NdCat:
		for k := i; k <= j; k++ {
			if r.means(s.a, i, k) && r.means(s.b, k, j) {
				return true
			}
		}
		return false
	}
	return r.times(s, i, j)
}

// times goes by the number of spans one behind the other: come are the places at which that many of them can end.
func (r *reader) times(s *shape, i, j int) bool {
	most := s.node.Most
	if most < 0 {
		most = s.node.Least + len(r.w) + 1
	}
	come := map[int]bool{i: true}
	for n := range most + 1 {
		if n >= s.node.Least && come[j] {
			return true
		}
		next := map[int]bool{}
		for from := range come {
			for to := from; to <= j; to++ {
				if r.means(s.a, from, to) {
					next[to] = true
				}
			}
		}
		come = next
	}
	return false
}

// wanted is the table that there must be.
func wanted(x api.Tree, s *shape, multi bool, w string) [][]bool {
	all := nothing(len(w))
	if tree.Check(x) != api.OK {
		return all
	}
	r := read(multi, w)
	for i := range all {
		for j := i; j <= len(w); j++ {
			all[i][j] = r.means(s, i, j)
		}
	}
	return all
}

// nothing is the table of no span.
func nothing(many int) [][]bool {
	all := make([][]bool, many+1)
	for i := range all {
		all[i] = make([]bool, many+1)
	}
	return all
}

func sameTable(a, b [][]bool) bool { return slices.EqualFunc(a, b, slices.Equal[[]bool]) }

// list is the spans of a table as a text.
func list(all [][]bool) string {
	var l []string
	for i, row := range all {
		for j, is := range row {
			if is {
				l = append(l, fmt.Sprintf("%d-%d", i, j))
			}
		}
	}
	return strings.Join(l, " ")
}

// startsOf and endsOf are what a table's Starts and Ends must be.
func startsOf(all [][]bool) []int {
	l := make([]int, len(all))
	for j := range l {
		l[j] = -1
		for i := j - 1; i >= 0; i-- {
			if all[i][j] {
				l[j] = i
			}
		}
	}
	return l
}

func endsOf(all [][]bool) []int {
	var l []int
	for j := range all {
		for i := range j {
			if all[i][j] {
				l = append(l, j)
				break
			}
		}
	}
	return l
}

// answers fails unless all calls with a text answer what this table says.
func answers(t *testing.T, x api.Tree, multi bool, w string, want [][]bool) {
	t.Helper()
	text := []byte(w)
	if got := meaning.Spans(x, multi, text); !sameTable(got, want) {
		t.Fatalf("%v, multi %t, %q: Spans %s, not %s", x, multi, w, list(got), list(want))
	}
	for i := -1; i <= len(w)+1; i++ {
		for j := -1; j <= len(w)+1; j++ {
			is := i >= 0 && i <= j && j <= len(w) && want[i][j]
			if meaning.Match(x, multi, text, i, j) != is {
				t.Fatalf("%v, multi %t, %q: Match from %d to %d is not %t", x, multi, w, i, j, is)
			}
		}
	}
	if got := meaning.Starts(x, multi, text); !slices.Equal(got, startsOf(want)) {
		t.Fatalf("%v, multi %t, %q: Starts %v, not %v", x, multi, w, got, startsOf(want))
	}
	if got := meaning.Ends(x, multi, text); !slices.Equal(got, endsOf(want)) {
		t.Fatalf("%v, multi %t, %q: Ends %v, not %v", x, multi, w, got, endsOf(want))
	}
}

// means fails unless s means just these spans, with multi and without.
func means(t *testing.T, s *shape, w, spans string) {
	t.Helper()
	meansWith(t, s, false, w, spans)
	meansWith(t, s, true, w, spans)
}

func meansWith(t *testing.T, s *shape, multi bool, w, spans string) {
	t.Helper()
	if got := list(meaning.Spans(s.tree(), multi, []byte(w))); got != spans {
		t.Errorf("%v, multi %t, %q: %s, not %s", s, multi, w, got, spans)
	}
	answers(t, s.tree(), multi, w, wanted(s.tree(), s, multi, w))
}

// texts are all texts of up to so many of these bytes.
func texts(bytes string, most int) []string {
	l := []string{""}
	for from, n := 0, 0; n < most; n++ {
		to := len(l)
		for _, w := range l[from:to] {
			for _, b := range []byte(bytes) {
				l = append(l, w+string(rune(b)))
			}
		}
		from = to
	}
	return l
}

// each goes through all shapes of so many nodes, of these leaves.
func each(nodes int, leaves []*shape, f func(s *shape)) {
	if nodes == 1 {
		for _, s := range leaves {
			f(s)
		}
	}
	if nodes <= 1 {
		return
	}
	each(nodes-1, leaves, func(a *shape) {
		for _, b := range []struct{ least, most int }{{0, -1}, {2, -1}, {0, 0}, {1, 3}, {2, 2}} {
			f(rep(a, b.least, b.most))
		}
	})
	for k := range nodes - 1 {
		each(k, leaves, func(a *shape) {
			each(nodes-1-k, leaves, func(b *shape) {
				f(cat(a, b))
				f(alt(a, b))
			})
		})
	}
}

// chance makes numbers of no order, always the same ones.
type chance uint64

func (c *chance) next() uint64 {
	*c = *c*6364136223846793005 + 1442695040888963407
	x := uint64(*c)
	return x ^ x>>33
}

func (c *chance) below(n int) int { return int((c.next() >> 8) % uint64(n)) }

func (c *chance) is() bool { return c.below(2) == 1 }

// text is of up to so many bytes, most of them a.
func (c *chance) text(most int) string {
	w := make([]byte, c.below(most+1))
	for i := range w {
		w[i] = "aaaab\n"[c.below(6)]
	}
	return string(w)
}

// shape is of just so many nodes, with anchors where they may stand.
func (c *chance) shape(nodes int, hatMay, dollarMay bool) *shape {
	switch {
	case nodes == 1 && hatMay && c.below(3) == 0:
		return hat
	case nodes == 1 && dollarMay && c.below(3) == 0:
		return dollar
	case nodes == 1:
		return []*shape{empty, never, a, a, a, b, ab, ab, line, full}[c.below(10)]
	case nodes == 2 || c.below(4) == 0:
		return c.repeat(c.shape(nodes-1, false, false))
	}
	k := 1 + c.below(nodes-2)
	if c.is() {
		return alt(c.shape(k, hatMay, dollarMay), c.shape(nodes-1-k, hatMay, dollarMay))
	}
	return cat(c.shape(k, hatMay, false), c.shape(nodes-1-k, false, dollarMay))
}

// plain is without anchors.
func (c *chance) plain(nodes int) *shape { return c.shape(nodes, false, false) }

func (c *chance) repeat(a *shape) *shape {
	l := []int{0, 0, 1, 1, 2, 3, 4, 7}
	least, most := l[c.below(len(l))], l[c.below(len(l))]
	if most = max(least, most); c.below(3) == 0 {
		most = -1
	}
	s := rep(a, least, most)
	s.node.Lazy = c.is()
	return s
}

// kinds are shapes of each kind, in the order of the kinds.
func kinds() []*shape {
	return []*shape{empty, a, cat(a, b), alt(a, b), star(a), hat, dollar}
}

// row is so many of leaf, joined by nodes of a kind, from the left on or from the right.
func row(many, kind int, leaf *shape, left bool) *shape {
	s := leaf
	for range many - 1 {
		if left {
			s = pair(kind, s, leaf)
		} else {
			s = pair(kind, leaf, s)
		}
	}
	return s
}

// pile is a leaf in so many repeats.
func pile(many int, leaf *shape, least, most int) *shape {
	s := leaf
	for range many {
		s = rep(s, least, most)
	}
	return s
}

// great are trees of about MaxNodes nodes, as deep as can be.
func great() []*shape {
	l := []*shape{pile(2047, a, 0, -1), pile(2047, a, 1000, 1000), pile(2047, a, 0, 0), pile(2047, a, 1, 2), pile(2047, empty, 1000, -1)}
	for _, kind := range []int{api.NdCat, api.NdAlt} {
		for _, left := range []bool{true, false} {
			for _, leaf := range []*shape{a, empty, rep(ab, 0, 1)} {
				l = append(l, row(680, kind, leaf, left))
			}
		}
	}
	return l
}

// refused are trees that may not be, each for another reason.
func refused() []api.Tree {
	class, leaf := a.node, empty.node
	l := []api.Tree{{}, {Nodes: []api.Node{}}}
	add := func(nodes ...api.Node) { l = append(l, api.Tree{Nodes: nodes}) }
	for _, kind := range []int{math.MinInt, -1, 0, 8, 9, math.MaxInt} {
		add(api.Node{Kind: kind})
		add(class, api.Node{Kind: kind})
		add(api.Node{Kind: kind}, class, api.Node{Kind: api.NdAlt, B: 1})
	}
	// A field that the kind does not have.
	add(api.Node{Kind: api.NdEmpty, A: 1})
	add(api.Node{Kind: api.NdHat, Class: raw('a')})
	add(api.Node{Kind: api.NdDollar, Lazy: true})
	add(api.Node{Kind: api.NdClass, Class: raw('a'), Most: 1})
	add(class, api.Node{Kind: api.NdRep, B: 1, Most: -1})
	add(class, leaf, api.Node{Kind: api.NdAlt, B: 1, Least: 1})
	// Parts that are elsewhere, or nowhere.
	add(api.Node{Kind: api.NdCat})
	add(api.Node{Kind: api.NdRep, Most: -1})
	add(class, api.Node{Kind: api.NdAlt})
	add(class, api.Node{Kind: api.NdRep, A: 1, Most: -1})
	add(class, api.Node{Kind: api.NdRep, A: -1, Most: -1})
	add(class, leaf, api.Node{Kind: api.NdCat, A: 1, B: 0})
	add(class, leaf, api.Node{Kind: api.NdCat, A: 0, B: 2})
	add(class, leaf, api.Node{Kind: api.NdAlt, A: math.MinInt, B: math.MaxInt})
	// Bounds that may not be.
	for _, n := range []api.Node{{Least: -1, Most: -1}, {Least: 2, Most: 1}, {Least: 1001, Most: -1}, {Most: 1001}, {Most: -2}, {Most: math.MaxInt}, {Least: math.MinInt}} {
		n.Kind = api.NdRep
		add(class, n)
	}
	// A root that leaves nodes over.
	add(class, class)
	add(class, class, api.Node{Kind: api.NdRep, A: 1, Most: -1})
	// More nodes than may be.
	l = append(l, pile(2048, a, 0, -1).tree(), row(1025, api.NdAlt, empty, true).tree())
	return l
}

// astray are shapes with an anchor where it cannot stand.
func astray() []*shape {
	return []*shape{
		rep(hat, 0, -1), rep(hat, 1, 1), rep(dollar, 1, 1), rep(dollar, 0, 0), cat(a, hat), cat(dollar, a), cat(a, cat(hat, b)), cat(cat(a, dollar), b), cat(hat, hat), cat(dollar, dollar), cat(dollar, hat),
		rep(cat(hat, a), 0, 1), rep(alt(a, dollar), 0, 1), alt(a, cat(b, hat)), cat(alt(a, dollar), b), cat(a, alt(hat, b)), cat(empty, hat), cat(dollar, empty), alt(empty, rep(hat, 0, 1)),
	}
}

// none are the trees of refused and of astray: what means nothing.
func none() []api.Tree {
	l := refused()
	for _, s := range astray() {
		l = append(l, s.tree())
	}
	return l
}
