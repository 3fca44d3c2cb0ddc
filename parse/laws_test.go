package parse_test

import (
	"slices"
	"testing"

	"riddle/api"
	"riddle/parse"
	"riddle/token"
	"riddle/tree"
)

// readable goes through many patterns that may be, and their trees.
func readable(t *testing.T, f api.Flags, visit func(p []byte, x api.Tree)) {
	t.Helper()
	many := 0
	take := func(p []byte) {
		x, at, e := parse.Parse(p, f)
		if e == api.OK {
			if at != len(p) {
				t.Fatalf("%q: at %d", p, at)
			}
			many++
			visit(p, x)
		}
	}
	each("a()|*^$", 5, func(p string) { take([]byte(p)) })
	for _, p := range patterns() {
		take([]byte(p))
	}
	c := chance(5)
	for range 2000 {
		take(token.Print(c.sound(1+c.below(40), true, true)...))
	}
	if many < 2000 {
		t.Errorf("only %d may be", many)
	}
}

// P6.4

func TestTreesThatMayBe(t *testing.T) {
	for _, f := range []api.Flags{{}, {Case: true}, {Dot: true}, {Case: true, Dot: true, Multi: true}} {
		readable(t, f, func(p []byte, x api.Tree) {
			if e := tree.Check(x); e != api.OK {
				t.Fatalf("%q: error %d", p, e)
			}
		})
	}
	for _, n := range []int{2047, 2048} {
		x, _, _ := parse.Tokens(api.Flags{}, aLot(n)...)
		if e := tree.Check(x); e != api.OK {
			t.Errorf("%d nodes: error %d", n, e)
		}
	}
}

// An anchor that is refused is one that the tree could not have.
func TestAnchorsAsTheTreeHasThem(t *testing.T) {
	wrong := 0
	each("a()|*^$", 5, func(p string) {
		l := spelled(p)
		all, _, e := pieces(l)
		if e != api.OK {
			return
		}
		want := tree.Check(api.Tree{Nodes: shapeOf(all, api.Flags{}).nodes()})
		_, _, got := parse.Tokens(api.Flags{}, l...)
		if got != want {
			t.Fatalf("%q: error %d, not %d", p, got, want)
		}
		if got == api.ErrAnchor {
			wrong++
		}
	})
	if wrong < 100 {
		t.Errorf("only %d have a wrong anchor", wrong)
	}
}

// P6.5

func TestGroupsAreNothing(t *testing.T) {
	readable(t, api.Flags{Case: true}, func(p []byte, x api.Tree) {
		for _, opens := range []string{"(", "(?:", "((?:", "((("} {
			in := append([]byte(opens), p...)
			for _, b := range []byte(opens) {
				if b == '(' {
					in = append(in, ')')
				}
			}
			y, at, e := parse.Parse(in, api.Flags{Case: true})
			if len(in) > api.MaxPattern {
				continue
			}
			if e != api.OK || at != len(in) || !tree.Same(x, y) {
				t.Fatalf("%q: %v, error %d; not %v", in, y, e, x)
			}
		}
	})
}

// hasBar is whether p, which is read, has a | outside of groups.
func hasBar(p []byte) bool {
	depth := 0
	for x := range token.Tokens(p) {
		switch x.Kind {
		case api.TkOpen:
			depth++
		case api.TkClose:
			depth--
		case api.TkBar:
			if depth == 0 {
				return true
			}
		}
	}
	return false
}

// some are patterns of which each is laid beside each.
func some() [][]byte {
	var l [][]byte
	for _, p := range []string{"", "a", "ab", "abc", "a*", "a|b", "a|b|c", "(a|b)", "(a|b)|c", "a|(b|c)", "()", "|", "^", "$", "^a", "a$", "^a|b$", "(^a)b", "a{2,3}?", "[^x]+", ".", "(a(b(c|d)e)f)", "^$"} {
		l = append(l, []byte(p))
	}
	c := chance(6)
	for range 60 {
		l = append(l, token.Print(c.sound(1+c.below(12), true, true)...))
	}
	return l
}

// P6.6

func TestSideBySide(t *testing.T) {
	joins, apart := 0, 0
	for _, p := range some() {
		for _, q := range some() {
			x, _, e := parse.Parse(p, api.Flags{})
			y, _, eY := parse.Parse(q, api.Flags{})
			if e != api.OK || eY != api.OK {
				continue
			}
			both := slices.Concat(p, []byte("|"), q)
			z, at, e := parse.Parse(both, api.Flags{})
			if e != api.OK || at != len(both) {
				t.Fatalf("%q: error %d at %d", both, e, at)
			}
			same := tree.Same(z, tree.Join(api.NdAlt, x, y))
			if hasBar(q) {
				apart++
			} else {
				joins++
			}
			if same == hasBar(q) {
				t.Fatalf("%q: %v", both, z)
			}
		}
	}
	if joins < 1000 || apart < 300 {
		t.Error(joins, apart)
	}
}

func TestOneBehindTheOther(t *testing.T) {
	joins, anchors := 0, 0
	for _, p := range some() {
		for _, q := range some() {
			x, _, e := parse.Parse(p, api.Flags{})
			y, _, eY := parse.Parse(q, api.Flags{})
			if e != api.OK || eY != api.OK {
				continue
			}
			both := slices.Concat([]byte("("), p, []byte(")("), q, []byte(")"))
			want := tree.Join(api.NdCat, x, y)
			z, at, e := parse.Parse(both, api.Flags{})
			switch tree.Check(want) {
			case api.OK:
				joins++
				if e != api.OK || at != len(both) || !tree.Same(z, want) {
					t.Fatalf("%q: %v, error %d; not %v", both, z, e, want)
				}
			case api.ErrAnchor:
				anchors++
				if e != api.ErrAnchor || z.Nodes != nil {
					t.Fatalf("%q: %v, error %d", both, z, e)
				}
			}
		}
	}
	if joins < 1000 || anchors < 300 {
		t.Error(joins, anchors)
	}
}
