package meaning_test

import (
	"maps"
	"slices"
	"strings"
	"testing"

	"riddle/api"
	"riddle/meaning"
	"riddle/parse"
	"riddle/tree"
)

func TestExamples(t *testing.T) {
	of := func(p string) api.Tree {
		x, _, e := parse.Parse([]byte(p), api.Flags{})
		if e != api.OK {
			t.Fatal(p, e)
		}
		return x
	}
	if got := meaning.Ends(of("a+"), false, []byte("baaa")); !slices.Equal(got, []int{2, 3, 4}) {
		t.Error("Ends of a+ in baaa:", got)
	}
	if got := meaning.Starts(of("a+"), false, []byte("baaa")); !slices.Equal(got, []int{-1, -1, 1, 1, 1}) {
		t.Error("Starts of a+ in baaa:", got)
	}
	if got := meaning.Ends(of("^a"), true, []byte("aa")); !slices.Equal(got, []int{1}) {
		t.Error("Ends of ^a in aa with multi:", got)
	}
	// The first example of the document, rule by rule.
	if got := meaning.Ends(of("ab+c"), false, []byte("xabbc")); !slices.Equal(got, []int{5}) {
		t.Error("Ends of ab+c in xabbc:", got)
	}
	if got := meaning.Starts(of("b+c"), false, []byte("xabbc")); !slices.Equal(got, []int{-1, -1, -1, -1, -1, 2}) {
		t.Error("Starts of b+c in xabbc:", got)
	}
}

// P8.2

// words are the texts of up to so many bytes that a shape without anchors means, made without a text to look at.
func (s *shape) words(most int) map[string]bool {
	all := map[string]bool{}
	switch s.node.Kind {
	case api.NdClass:
		for n := range 256 {
			if most > 0 && has(s.node.Class, byte(n)) {
				all[string([]byte{byte(n)})] = true
			}
		}
	case api.NdAlt:
		maps.Copy(all, s.a.words(most))
		maps.Copy(all, s.b.words(most))
	case api.NdCat:
		return joined(s.a.words(most), s.b.words(most), most)
	case api.NdRep:
		one, some := s.a.words(most), map[string]bool{"": true}
		last := s.node.Most
		if last < 0 {
			last = s.node.Least + most
		}
		for n := range last + 1 {
			if n >= s.node.Least {
				maps.Copy(all, some)
			}
			some = joined(some, one, most)
		}
	default:
		all[""] = true
	}
	return all
}

func joined(a, b map[string]bool, most int) map[string]bool {
	all := map[string]bool{}
	for v := range a {
		for w := range b {
			if len(v)+len(w) <= most {
				all[v+w] = true
			}
		}
	}
	return all
}

// A span without anchors is one of the words, whatever stands around it.
func TestASpanHangsOnItsBytesAlone(t *testing.T) {
	r := chance(85)
	small := func(nodes int) *shape { // full has too many words
		for {
			if s := r.plain(nodes); !strings.Contains(s.String(), full.String()) {
				return s
			}
		}
	}
	spans := 0
	for range 500 {
		s := small(1 + r.below(9))
		words := s.words(4)
		for range 4 {
			w := r.text(7)
			for _, multi := range []bool{false, true} {
				for i, row := range meaning.Spans(s.tree(), multi, []byte(w)) {
					for j := i; j <= min(i+4, len(w)); j++ {
						if row[j] != words[w[i:j]] {
							t.Fatalf("%v, multi %t, %q: from %d to %d %t", s, multi, w, i, j, row[j])
						}
						if row[j] {
							spans++
						}
					}
				}
			}
		}
	}
	if spans < 5000 {
		t.Errorf("only %d spans", spans)
	}
}

// The same bytes are meant, or not, in any text, at any place, with multi or without.
func TestSameBytesInOtherTexts(t *testing.T) {
	r := chance(86)
	for range 2000 {
		s, w := r.plain(1+r.below(15)), r.text(6)
		x := s.tree()
		is := meaning.Match(x, false, []byte(w), 0, len(w))
		for _, ahead := range []string{"", "a", "\n", "ab\nb"} {
			for _, behind := range []string{"", "a", "\n", "\nbab"} {
				for _, multi := range []bool{false, true} {
					if meaning.Match(x, multi, []byte(ahead+w+behind), len(ahead), len(ahead)+len(w)) != is {
						t.Fatalf("%v, multi %t: %q between %q and %q is not %t", s, multi, w, ahead, behind, is)
					}
				}
			}
		}
	}
	// With anchors it is not so.
	if x := cat(hat, a).tree(); meaning.Match(x, false, []byte("ba"), 1, 2) || !meaning.Match(x, false, []byte("ab"), 0, 1) {
		t.Error("^a")
	}
}

// P8.3

// alike fails unless two shapes, neither of them refused, mean the same in this text.
func alike(t *testing.T, x, y *shape, multi bool, w string) {
	t.Helper()
	for _, s := range []*shape{x, y} {
		if e := tree.Check(s.tree()); e != api.OK {
			t.Fatalf("%v: error %d", s, e)
		}
	}
	p, q := meaning.Spans(x.tree(), multi, []byte(w)), meaning.Spans(y.tree(), multi, []byte(w))
	if !sameTable(p, q) {
		t.Fatalf("multi %t, %q: %v means %s, %v means %s", multi, w, x, list(p), y, list(q))
	}
	if meaning.Empty(x.tree()) != meaning.Empty(y.tree()) {
		t.Fatalf("Empty of %v and of %v", x, y)
	}
}

// eachThree goes through shapes of many kinds, three of them each time, and a text.
func eachThree(seed chance, hatMay, dollarMay bool, f func(p, q, s *shape, multi bool, w string)) {
	for range 1500 {
		part := func() *shape { return seed.shape(1+seed.below(8), hatMay, dollarMay) }
		f(part(), part(), part(), seed.is(), seed.text(7))
	}
}

func TestAltIsCommutativeAndAssociative(t *testing.T) {
	eachThree(87, true, true, func(p, q, s *shape, multi bool, w string) {
		alike(t, alt(p, q), alt(q, p), multi, w)
		alike(t, alt(alt(p, q), s), alt(p, alt(q, s)), multi, w)
		alike(t, alt(p, p), p, multi, w)
	})
}

func TestCatIsAssociative(t *testing.T) {
	eachThree(88, false, false, func(p, q, s *shape, multi bool, w string) {
		alike(t, cat(cat(p, q), s), cat(p, cat(q, s)), multi, w)
		alike(t, cat(cat(alt(hat, p), q), alt(s, dollar)), cat(alt(hat, p), cat(q, alt(s, dollar))), multi, w)
	})
}

func TestCatDistributesOverAlt(t *testing.T) {
	eachThree(89, false, false, func(p, q, s *shape, multi bool, w string) {
		alike(t, cat(p, alt(q, s)), alt(cat(p, q), cat(p, s)), multi, w)
		alike(t, cat(alt(p, q), s), alt(cat(p, s), cat(q, s)), multi, w)
		alike(t, cat(alt(hat, p), alt(q, dollar)), alt(alt(cat(hat, q), cat(hat, dollar)), alt(cat(p, q), cat(p, dollar))), multi, w)
	})
}

func TestEmptyIsNothingInACat(t *testing.T) {
	eachThree(90, false, false, func(p, q, s *shape, multi bool, w string) {
		alike(t, cat(empty, p), p, multi, w)
		alike(t, cat(p, empty), p, multi, w)
		alike(t, cat(cat(p, empty), q), cat(p, cat(empty, q)), multi, w)
		alike(t, cat(alt(hat, p), empty), alt(hat, p), multi, w)
		alike(t, cat(empty, alt(p, dollar)), alt(p, dollar), multi, w)
	})
}

// times is so many of s one behind the other.
func times(s *shape, many int) *shape {
	all := empty
	for range many {
		all = cat(all, s)
	}
	return all
}

// upTo is none of s, or one and up to one less behind it.
func upTo(s *shape, many int) *shape {
	all := empty
	for range many {
		all = alt(empty, cat(s, all))
	}
	return all
}

func TestRepeatsUnrolled(t *testing.T) {
	eachThree(91, false, false, func(p, _, _ *shape, multi bool, w string) {
		for least := range 4 {
			for most := least; most < 6; most++ {
				alike(t, rep(p, least, most), cat(times(p, least), upTo(p, most-least)), multi, w)
			}
			alike(t, rep(p, least, -1), cat(times(p, least), star(p)), multi, w)
			alike(t, rep(p, least, -1), lazy(p, least, -1), multi, w)
		}
	})
}

func TestRepeatsWithoutEnd(t *testing.T) {
	eachThree(92, false, false, func(p, _, _ *shape, multi bool, w string) {
		alike(t, star(p), alt(empty, cat(p, star(p))), multi, w)
		alike(t, star(p), alt(empty, cat(star(p), p)), multi, w)
		alike(t, star(p), star(star(p)), multi, w)
		alike(t, star(p), rep(p, 0, 1000), multi, w) // more than the text has bytes
		alike(t, rep(p, 1, -1), cat(p, star(p)), multi, w)
	})
}

// P8.4

func turned(w string) string {
	l := []byte(w)
	slices.Reverse(l)
	return string(l)
}

func TestTurnedRound(t *testing.T) {
	r := chance(93)
	other := 0
	look := func(s *shape, multi bool, w string) {
		p := meaning.Spans(s.tree(), multi, []byte(w))
		q := meaning.Spans(tree.Mirror(s.tree()), multi, []byte(turned(w)))
		for i := range p {
			for j := range p {
				if p[i][j] != q[len(w)-j][len(w)-i] {
					t.Fatalf("%v, multi %t, %q: from %d to %d %t", s, multi, w, i, j, p[i][j])
				}
			}
		}
		if !sameTable(p, meaning.Spans(tree.Mirror(s.tree()), multi, []byte(w))) {
			other++
		}
		if meaning.Empty(s.tree()) != meaning.Empty(tree.Mirror(s.tree())) {
			t.Fatalf("Empty of %v", s)
		}
	}
	for range 3000 {
		look(r.shape(1+r.below(20), true, true), r.is(), r.text(8))
	}
	for _, s := range kinds() {
		for _, w := range texts("ab\n", 4) {
			look(s, false, w)
			look(s, true, w)
		}
	}
	if other < 500 {
		t.Errorf("only %d mean another thing when they are turned", other)
	}
}

// P8.5

func TestHowWide(t *testing.T) {
	r := chance(94)
	spans, tight := 0, 0
	for range 3000 {
		s, w, multi := r.shape(1+r.below(12), true, true), r.text(9), r.is()
		least, most := tree.Widths(s.tree())
		seen := map[int]bool{}
		for i, row := range meaning.Spans(s.tree(), multi, []byte(w)) {
			for j, is := range row {
				if !is {
					continue
				}
				spans++
				seen[j-i] = true
				if j-i < least || most >= 0 && j-i > most {
					t.Fatalf("%v, multi %t, %q: from %d to %d, but %d to %d bytes", s, multi, w, i, j, least, most)
				}
			}
		}
		if seen[least] && (most < 0 || seen[most]) {
			tight++
		}
		if meaning.Empty(s.tree()) != (least == 0) {
			t.Fatalf("%v: Empty %t, at least %d bytes", s, meaning.Empty(s.tree()), least)
		}
	}
	if spans < 10000 || tight < 500 {
		t.Error(spans, tight)
	}
}

// Where each class has the byte of which the text is, the widths are just met.
func TestWidthsAreMet(t *testing.T) {
	w := []byte(strings.Repeat("a", 40))
	leaves := []*shape{empty, a, ab}
	for nodes := 1; nodes <= 4; nodes++ {
		each(nodes, leaves, func(s *shape) {
			x := s.tree()
			least, most := tree.Widths(x)
			first := meaning.Spans(x, false, w)[0]
			if most < 0 || most > len(w) {
				most = len(w)
			}
			if least > len(w) {
				return
			}
			end := most
			for end > 0 && !first[end] {
				end--
			}
			if slices.Index(first, true) != least || most < len(w) && end != most {
				t.Fatalf("%v: %d to %d bytes, not %d to %d", s, slices.Index(first, true), end, least, most)
			}
		})
	}
}
