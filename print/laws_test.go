package print_test

import (
	"slices"
	"strings"
	"testing"

	"riddle/api"
	"riddle/parse"
	"riddle/print"
	"riddle/token"
	"riddle/tree"
)

// readsBack fails unless the tree's pattern is read as the tree; it answers the pattern, and whether there is one.
func readsBack(t *testing.T, x api.Tree) ([]byte, bool) {
	t.Helper()
	p, e := print.Pattern(x)
	if e == api.ErrLong {
		if n, e := print.Length(x); n <= api.MaxPattern || e != api.OK {
			t.Fatalf("%v: Length %d, error %d", x, n, e)
		}
		return nil, false
	}
	if e != api.OK {
		t.Fatalf("%v: error %d", x, e)
	}
	y, at, e := parse.Parse(p, api.Flags{})
	if e != api.OK || at != len(p) || !tree.Same(x, y) {
		t.Fatalf("%q: %v, error %d at %d; not %v", p, y, e, at, x)
	}
	return p, true
}

// P7.3

func TestItReadsBack(t *testing.T) {
	short := 0
	for _, s := range some() {
		if _, is := readsBack(t, s.tree()); is {
			short++
		}
	}
	leaves := []*shape{empty, a, hat, dollar}
	for nodes := 1; nodes <= 6; nodes++ {
		each(nodes, leaves, func(s *shape) {
			x := s.tree()
			if tree.Check(x) == api.ErrAnchor {
				refuses(t, x, api.ErrAnchor)
				return
			}
			readsBack(t, x)
			short++
		})
	}
	if short < 4000 {
		t.Errorf("only %d have a pattern", short)
	}
}

func TestEachByteReadsBack(t *testing.T) {
	for n := range 256 {
		for k := range 256 {
			x, y := one(byte(n)), one(byte(k))
			readsBack(t, cat(x, y).tree())
			readsBack(t, cat(set(raw(byte(n), byte(k))), rep(y, 2, 2)).tree())
		}
	}
}

func TestEachRepeatReadsBack(t *testing.T) {
	for n := range api.MaxRepeat + 1 {
		for _, s := range []*shape{rep(a, n, n), lazy(a, n, -1), rep(a, 0, n), lazy(cat(a, b), n, 1000)} {
			readsBack(t, s.tree())
			readsBack(t, cat(s, one('?')).tree())
			readsBack(t, rep(s, 0, 1).tree())
		}
	}
}

func TestManyTreesReadBack(t *testing.T) {
	r := chance(73)
	short, long := 0, 0
	for range 3000 {
		if _, is := readsBack(t, r.shape(1+r.below(400), true, true).tree()); is {
			short++
		} else {
			long++
		}
	}
	if short < 500 || long < 500 {
		t.Error(short, long)
	}
}

// No group could be left out: without it the text is read as another tree, or not at all.
func TestAsFewGroupsAsCanBe(t *testing.T) {
	groups := 0
	look := func(x api.Tree) {
		p, e := print.Pattern(x)
		if e != api.OK {
			return
		}
		l, _, _ := token.Lex(p)
		for _, bare := range withoutOneGroup(l) {
			groups++
			if y, _, e := parse.Tokens(api.Flags{}, bare...); e == api.OK && tree.Same(x, y) {
				t.Fatalf("%q has a group that is nothing: %q", p, token.Print(bare...))
			}
		}
	}
	for nodes := 1; nodes <= 5; nodes++ {
		each(nodes, []*shape{empty, a, hat, dollar}, func(s *shape) { look(s.tree()) })
	}
	r := chance(74)
	for range 500 {
		look(r.shape(1+r.below(60), true, true).tree())
	}
	if groups < 5000 {
		t.Errorf("only %d groups", groups)
	}
}

// withoutOneGroup are the tokens without one of their groups each.
func withoutOneGroup(l []api.Token) [][]api.Token {
	var all [][]api.Token
	var open []int
	for i, x := range l {
		switch x.Kind {
		case api.TkOpen:
			open = append(open, i)
		case api.TkClose:
			from := open[len(open)-1]
			open = open[:len(open)-1]
			all = append(all, slices.Concat(l[:from], l[from+1:i], l[i+1:]))
		}
	}
	return all
}

// P7.4

func TestUnlikeTreesHaveUnlikeTexts(t *testing.T) {
	by := map[string]api.Tree{}
	take := func(s *shape) {
		x := s.tree()
		p, e := print.Pattern(x)
		if e != api.OK {
			return
		}
		if y, is := by[string(p)]; is && !tree.Same(x, y) {
			t.Fatalf("%q is of %v and of %v", p, x, y)
		}
		by[string(p)] = x
	}
	for nodes := 1; nodes <= 5; nodes++ {
		each(nodes, []*shape{empty, a, set(raw('a', 'b')), one('|'), one('*'), hat, dollar}, take)
	}
	each(6, []*shape{empty, a, hat}, take)
	r := chance(75)
	for range 2000 {
		take(r.shape(1+r.below(20), true, true))
		take(set(r.class()))
		take(r.repeat(a))
	}
	for n := range 256 {
		take(one(byte(n)))
		take(set(all(n, 255)))
		take(set(raw('-', byte(n))))
	}
	if len(by) < 8000 {
		t.Errorf("only %d texts", len(by))
	}
}

// eachPattern goes through all texts of up to so many of these pieces.
func eachPattern(pieces []string, most int, f func(p string)) {
	f("")
	if most == 0 {
		return
	}
	for _, piece := range pieces {
		eachPattern(pieces, most-1, func(p string) { f(piece + p) })
	}
}

// isReadAgain fails unless what is read in p has a pattern that reads back as the same, or one that is too long; it answers whether p is read, and has one.
func isReadAgain(t *testing.T, p string) (bool, bool) {
	t.Helper()
	x, _, e := parse.Parse([]byte(p), api.Flags{})
	if e != api.OK {
		return false, false
	}
	_, is := readsBack(t, x)
	return true, is
}

func TestWhatIsReadHasAPattern(t *testing.T) {
	read := 0
	take := func(p string) {
		if is, has := isReadAgain(t, p); is {
			read++
			if !has {
				t.Fatalf("%q has no pattern", p)
			}
		}
	}
	eachPattern([]string{"a", "(", ")", "|", "*", "^", "$"}, 6, take)
	eachPattern([]string{".", "[^a]", `\d`, `\.`, "(?:", ")", "|", "{2,3}", "??"}, 4, take)
	for _, p := range []string{
		"ab+c", "b+c", "a.{0,600}z", "a{2,}?[^x-z]$", `(?:ab|\.)*?x{3}\d[^\n-].`, `^(a|b(?:c))\w+?$`, "((((^a)b)c|d$))", "a{1}{2}", "(a{1,1}){0,}", "[]", "[^\\]]", "{", "}", "a{0,1}", "[a-a]", "\\x41\\x2e", " ", "\xff\x00", "-", "[-]", "((((((()))))))",
	} {
		take(p)
	}
	if read < 5000 {
		t.Errorf("only %d are read", read)
	}
}

func TestWhatIsReadMayBeTooLong(t *testing.T) {
	for _, p := range []string{
		strings.Repeat(".", 1024), strings.Repeat(`\w`, 512), strings.Repeat("\x00", 1024), strings.Repeat("(a", 300) + strings.Repeat(")", 300), strings.Repeat("()", 512), strings.Repeat("a(b|c)", 150), strings.Repeat("(", 250) + "a" + strings.Repeat("*)", 250),
	} {
		if is, has := isReadAgain(t, p); !is || has {
			t.Errorf("%.40q: read %t, has a pattern %t", p, is, has)
		}
	}
	for _, p := range []string{strings.Repeat("a", 1024), strings.Repeat("a", 1022) + "+?", strings.Repeat("|", 1023), strings.Repeat("(?:a|b)", 146) + "cc", strings.Repeat("(", 512) + strings.Repeat(")", 512)} {
		if is, has := isReadAgain(t, p); !is || !has {
			t.Errorf("%.40q: read %t, has a pattern %t", p, is, has)
		}
	}
}

// What is read with flags is printed as what reads back without them.
func TestWhatIsReadWithFlags(t *testing.T) {
	for _, x := range []struct {
		p    string
		f    api.Flags
		want string
	}{
		{"a.b", api.Flags{Case: true}, `[Aa][\x00-\x09\x0b-\xff][Bb]`},
		{"a.b", api.Flags{Dot: true}, `a[\x00-\xff]b`},
		{"^[^a]$", api.Flags{Case: true, Multi: true}, "^[\\x00-@B-`b-\\xff]$"},
		{"^[^a]$", api.Flags{Multi: true}, "^[\\x00-`b-\\xff]$"},
	} {
		y, _, e := parse.Parse([]byte(x.p), x.f)
		if e != api.OK {
			t.Fatal(x.p, e)
		}
		says(t, y, x.want)
		readsBack(t, y)
	}
	// With Case a class may have no byte: all but the small letters, in either case, are all bytes.
	y, _, e := parse.Parse([]byte(`[^\x00-\x60{-\xff]`), api.Flags{Case: true})
	if e != api.OK {
		t.Fatal(e)
	}
	refuses(t, y, api.ErrNever)
}
