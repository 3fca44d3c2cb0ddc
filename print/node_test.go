package print_test

import (
	"math"
	"testing"

	"riddle/api"
	"riddle/class"
	"riddle/print"
	"riddle/token"
)

// P7.1

func TestLevelOfEachKind(t *testing.T) {
	for _, x := range []struct {
		s    *shape
		want int
	}{
		{alt(a, b), 0}, {alt(empty, empty), 0}, {alt(alt(a, b), c), 0}, {alt(hat, dollar), 0},
		{cat(a, b), 1}, {cat(alt(a, b), c), 1}, {cat(hat, dollar), 1}, {cat(a, rep(b, 0, 1)), 1},
		{rep(a, 0, -1), 2}, {lazy(alt(a, b), 3, 4), 2}, {rep(rep(a, 2, 2), 3, 3), 2}, {rep(empty, 0, 0), 2},
		{empty, 2},
		{a, 3}, {set(all(0, 255)), 3}, {never, 3}, {hat, 3}, {dollar, 3},
	} {
		if got := print.Level(x.s.tree()); got != x.want {
			t.Errorf("%q: %d, not %d", x.s.text(), got, x.want)
		}
	}
}

func TestLevelOfWhatIsNoTree(t *testing.T) {
	for _, x := range refused() {
		if got := print.Level(x); got != 2 {
			t.Errorf("%v: %d", x, got)
		}
	}
}

// An anchor where it cannot stand, or a class of no byte, leaves the root what it is.
func TestLevelOfWhatHasNoPattern(t *testing.T) {
	want := map[int]int{api.NdAlt: 0, api.NdCat: 1, api.NdRep: 2}
	for _, s := range append(astray(), alt(never, a), cat(a, never), rep(never, 0, -1)) {
		if got := print.Level(s.tree()); got != want[s.node.Kind] {
			t.Errorf("%q: %d", s.text(), got)
		}
	}
}

func TestLevelOfGreatTrees(t *testing.T) {
	want := map[int]int{api.NdAlt: 0, api.NdCat: 1, api.NdRep: 2}
	for i, s := range great() {
		if got := print.Level(s.tree()); got != want[s.node.Kind] {
			t.Errorf("tree %d: %d", i, got)
		}
	}
}

func TestNodeOfEachKind(t *testing.T) {
	for _, x := range []struct {
		n    api.Node
		want string
	}{
		{api.Node{Kind: api.NdEmpty}, ""}, {api.Node{Kind: api.NdCat}, ""}, {api.Node{Kind: api.NdCat, A: 3, B: 5}, ""},
		{api.Node{Kind: api.NdAlt}, "|"}, {api.Node{Kind: api.NdAlt, A: 3, B: 5}, "|"}, {api.Node{Kind: api.NdHat}, "^"}, {api.Node{Kind: api.NdDollar}, "$"},
	} {
		if got := print.Node(x.n); got != x.want {
			t.Errorf("%v: %q", x.n, got)
		}
	}
}

func TestNodeOfNoKind(t *testing.T) {
	for _, kind := range []int{math.MinInt, -7, -1, 0, 8, 9, 70, 258, math.MaxInt} {
		for _, n := range []api.Node{{}, {Class: raw('a')}, {A: 1, B: 2}, {Most: -1, Lazy: true}} {
			n.Kind = kind
			if got := print.Node(n); got != "" {
				t.Errorf("%v: %q", n, got)
			}
		}
	}
}

func TestNodeOfClasses(t *testing.T) {
	for _, x := range []struct {
		class api.Class
		want  string
	}{
		{raw('a'), "a"}, {raw('.'), `\.`}, {raw('-'), "-"}, {raw(']'), `\]`}, {raw('^'), `\^`}, {raw('$'), `\$`}, {raw(' '), `\x20`}, {raw(0), `\x00`}, {raw(10), `\x0a`}, {raw(255), `\xff`}, {raw('\\'), `\\`},
		{raw('a', 'b'), "[ab]"}, {raw('a', 'c'), "[ac]"}, {all('a', 'c'), "[a-c]"}, {raw('^', 'a'), `[\x5ea]`}, {raw('-', 'z'), `[\x2dz]`}, {raw('A', 'a'), "[Aa]"}, {all(0, 255), `[\x00-\xff]`}, {noNewline, `[\x00-\x09\x0b-\xff]`},
		{api.Class{}, "[]"},
	} {
		if got := print.Node(api.Node{Kind: api.NdClass, Class: x.class}); got != x.want {
			t.Errorf("%v: %q, not %q", x.class, got, x.want)
		}
	}
	r := chance(72)
	for range 2000 {
		set := r.class()
		got := print.Node(api.Node{Kind: api.NdClass, Class: set})
		if got != class.Text(set) || got != classText(set) {
			t.Fatalf("%v: %q", set, got)
		}
	}
	for n := range 256 {
		if got := print.Node(one(byte(n)).node); got != class.Literal(byte(n)) || got != classText(raw(byte(n))) {
			t.Errorf("%d: %q", n, got)
		}
	}
}

func TestNodeOfRepeats(t *testing.T) {
	for _, x := range []struct {
		least, most int
		want        string
	}{
		{0, -1, "*"}, {1, -1, "+"}, {0, 1, "?"}, {0, 0, "{0}"}, {1, 1, "{1}"}, {2, 2, "{2}"}, {1000, 1000, "{1000}"}, {2, -1, "{2,}"}, {1000, -1, "{1000,}"}, {0, 2, "{0,2}"}, {1, 2, "{1,2}"}, {0, 1000, "{0,1000}"}, {999, 1000, "{999,1000}"},
	} {
		for _, at := range []int{0, 7} {
			n := api.Node{Kind: api.NdRep, A: at, Least: x.least, Most: x.most}
			if got := print.Node(n); got != x.want {
				t.Errorf("%v: %q, not %q", n, got, x.want)
			}
			n.Lazy = true
			if got := print.Node(n); got != x.want+"?" {
				t.Errorf("%v: %q, not %q", n, got, x.want+"?")
			}
		}
	}
}

// Bounds that may not be have no text, as token says it.
func TestNodeOfAnyBounds(t *testing.T) {
	l := []int{math.MinInt, -1001, -2, -1, 0, 1, 2, 999, 1000, 1001, math.MaxInt}
	for _, least := range l {
		for _, most := range l {
			for _, isLazy := range []bool{false, true} {
				got := print.Node(api.Node{Kind: api.NdRep, Least: least, Most: most, Lazy: isLazy})
				if got != token.Text(api.Token{Kind: api.TkRepeat, Least: least, Most: most, Lazy: isLazy}) {
					t.Errorf("%d to %d: %q", least, most, got)
				}
				may := least >= 0 && least <= 1000 && (most == -1 || most >= least && most <= 1000)
				if may != (got != "") {
					t.Errorf("%d to %d: %q", least, most, got)
				}
			}
		}
	}
}

// Node goes by the kind: fields that it does not have are nothing to it.
func TestNodeOfFieldsOfOtherKinds(t *testing.T) {
	n := api.Node{Class: raw('a'), A: 2, B: 1, Least: 3, Most: 4, Lazy: true}
	for kind, want := range map[int]string{api.NdEmpty: "", api.NdClass: "a", api.NdCat: "", api.NdAlt: "|", api.NdRep: "{3,4}?", api.NdHat: "^", api.NdDollar: "$"} {
		n.Kind = kind
		if got := print.Node(n); got != want {
			t.Errorf("%v: %q, not %q", n, got, want)
		}
	}
}
