package parse_test

import (
	"slices"
	"testing"

	"riddle/api"
	"riddle/parse"
	"riddle/token"
)

// anchorAt fails unless the first anchor of p that cannot stand is its byte at a place; -1: all may stand.
func anchorAt(t *testing.T, p string, at int) {
	t.Helper()
	l, _, e := token.Lex([]byte(p))
	if e != api.OK {
		t.Fatalf("%q: error %d", p, e)
	}
	if got := parse.Anchors(l...); got != at {
		t.Errorf("%q: at %d, not at %d", p, got, at)
	}
	_, gotAt, gotE := parse.Parse([]byte(p), api.Flags{})
	if at < 0 && (gotE != api.OK || gotAt != len(p)) || at >= 0 && (gotE != api.ErrAnchor || gotAt != at) {
		t.Errorf("%q: error %d at %d", p, gotE, gotAt)
	}
}

// P6.3

func TestAnchorsThatMayStand(t *testing.T) {
	for _, p := range []string{
		"", "a", "^", "$", "^a", "a$", "^a$", "^$", "^a|^b", "a$|b$", "^|$", "a|^", "$|a", "a||^$",
		"(^)", "($)", "(^a)", "(a$)", "(^)a", "a($)", "(^a)b", "a(b$)", "(^a|b)c", "a(b|c$)", "(^|a)(b|$)", "((^))a", "a(($))", "(((^a)b)c)d", "a(b(c(d$)))",
		"a|(^b)c", "(a$)|b", "(^a|^)", "(a|(b|c$))", "(^a)b*", "b*(a$)", "(^a*)b", "(^(a)*)", "((a)*$)", "(^$)", "(?:^a|b)c", "(^)($)", "(^())", "(()$)", "a*$", "^a*",
	} {
		anchorAt(t, p, -1)
	}
}

func TestHatsThatCannotStand(t *testing.T) {
	for _, x := range []struct {
		p  string
		at int
	}{
		{"a^", 1}, {"ab^c", 2}, {"a*^", 2}, {".^", 1}, {"^^", 1}, {"()^", 2}, {"(a)^b", 3}, {"a|b^", 3}, {"a^|b", 1},
		{"a(^)", 2}, {"a(^b)", 2}, {"a(b|^)", 4}, {"a((^))", 3}, {"(a(^))", 3}, {"()(^)", 3}, {"(^a)(^b)", 5}, {"^(^)", 2}, {"(b^)", 2}, {"(b^)a", 2}, {"b|(c(^))", 5},
		{"(^)*", 1}, {"(^a)*", 1}, {"(^a|b){1}", 1}, {"((^a))?", 2}, {"((^a)b)+", 2}, {"((^)+a)", 2}, {"(a|(^b)*)c", 4}, {"(^){0}", 1}, {"(^){1}?", 1}, {"((^)*)", 2}, {"(((^)))*", 3},
	} {
		anchorAt(t, x.p, x.at)
	}
}

func TestDollarsThatCannotStand(t *testing.T) {
	for _, x := range []struct {
		p  string
		at int
	}{
		{"$a", 0}, {"a$b", 1}, {"$a*", 0}, {"$.", 0}, {"$$", 0}, {"$()", 0}, {"b$(a)", 1}, {"$b|a", 0}, {"a|$b", 2}, {"b|a$a", 3},
		{"($)a", 1}, {"(b$)a", 2}, {"($|b)a", 1}, {"(b|$)a", 3}, {"(($))a", 2}, {"(($)a)", 2}, {"($)()", 1}, {"(a$)(b$)", 2}, {"($)$", 1}, {"($b)", 1}, {"a($b)", 2}, {"(($)c)|b", 2},
		{"($)*", 1}, {"(a$)*", 2}, {"(b|a$){1}", 4}, {"((a$))?", 3}, {"(b(a$))+", 4}, {"(a($)+)", 3}, {"a(b|(c$)*)", 6}, {"($){0}", 1}, {"($){1}?", 1}, {"(($)*)", 2}, {"((($)))*", 3},
	} {
		anchorAt(t, x.p, x.at)
	}
}

// Of several that cannot stand the one that stands first is told, of either kind.
func TestWhicheverStandsFirst(t *testing.T) {
	for _, x := range []struct {
		p  string
		at int
	}{
		{"$^", 0}, {"a^$b", 1}, {"a$^b", 1}, {"^a^b^", 2}, {"$a$b$", 0}, {"^$a^", 1}, {"^a$b", 2}, {"b^a$", 1}, {"(a^)($b)", 2}, {"($b)(a^)", 1}, {"(^$)*", 1}, {"($|^)*", 1}, {"(^|$)*", 1}, {"(^|$)a^", 3}, {"a(^|$)", 2}, {"a($|^)", 4}, {"(($)a(^))", 2}, {"^a|b^|$c", 4}, {"$a|b^", 0},
	} {
		anchorAt(t, x.p, x.at)
	}
}

// The one that is told is the first one in the list, wherever its At says that it is.
func TestFirstInTheList(t *testing.T) {
	l := []api.Token{aByte('a'), {Kind: api.TkHat, At: 90}, {Kind: api.TkHat, At: 50}, {Kind: api.TkDollar, At: 70}, {Kind: api.TkDollar, At: 30}}
	if at := parse.Anchors(l...); at != 90 {
		t.Error(at)
	}
	if at := parse.Anchors(l[2:]...); at != 70 {
		t.Error(at)
	}
	refuses(t, 90, api.ErrAnchor, l...)
	refuses(t, 70, api.ErrAnchor, l[2:]...)
	if at := parse.Anchors(aByte('a'), hat); at != 0 {
		t.Error("of an anchor at 0:", at)
	}
	refuses(t, 0, api.ErrAnchor, aByte('a'), hat)
}

func TestAnchorsOfNoTree(t *testing.T) {
	for _, p := range []string{"a^*", "a^b**", "*a^", "a^)", ")a^", "(a^", "a^(", "a$b)", "($a", "(a^|*)", "a|*$^"} {
		if at := parse.Anchors(spelled(p)...); at != -1 {
			t.Errorf("%q: %d", p, at)
		}
	}
	for _, x := range refused() {
		if at := parse.Anchors(x); at != -1 {
			t.Errorf("%v: %d", x, at)
		}
		l := spelled("a^b$c")
		for i := range len(l) + 1 {
			if at := parse.Anchors(slices.Insert(slices.Clone(l), i, x)...); at != -1 {
				t.Errorf("%v at %d: %d", x, i, at)
			}
		}
	}
}

func TestAnchorsOfNone(t *testing.T) {
	if at := parse.Anchors(); at != -1 {
		t.Error(at)
	}
}

// A tree of too many nodes is one all the same.
func TestAnchorsOfManyNodes(t *testing.T) {
	if at := parse.Anchors(aLot(5000)...); at != -1 {
		t.Error(at)
	}
	if at := parse.Anchors(append(aLot(5000), api.Token{Kind: api.TkHat, At: 3})...); at != 3 {
		t.Error(at)
	}
}
