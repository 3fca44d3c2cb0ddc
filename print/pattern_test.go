package print_test

import (
	"strings"
	"testing"

	"riddle/api"
	"riddle/parse"
	"riddle/print"
)

// P7.2

func TestExamples(t *testing.T) {
	for p, want := range map[string]string{"(a|b)*c": "(?:a|b)*c", "a(bc)": "a(?:bc)", "(a{2}){3}": "(?:a{2}){3}", "(|a)b": "(?:|a)b"} {
		x, _, e := parse.Parse([]byte(p), api.Flags{})
		if e != api.OK {
			t.Fatal(p, e)
		}
		says(t, x, want)
	}
	says(t, cat(rep(alt(a, b), 0, -1), c).tree(), "(?:a|b)*c")
	says(t, cat(a, cat(b, c)).tree(), "a(?:bc)")
	says(t, rep(rep(a, 2, 2), 3, 3).tree(), "(?:a{2}){3}")
	says(t, cat(alt(empty, a), b).tree(), "(?:|a)b")
}

func TestPatternOfOneNode(t *testing.T) {
	says(t, empty.tree(), "")
	says(t, hat.tree(), "^")
	says(t, dollar.tree(), "$")
	says(t, set(all('a', 'z')).tree(), "[a-z]")
	for n := range 256 {
		says(t, one(byte(n)).tree(), classText(raw(byte(n))))
	}
}

// ahead and behind are the texts of what kinds tells as A and as B of an alternative, first and second as A and as B of what follows each other, repeated as A of a repeat; - where an anchor cannot stand.
var (
	ahead    = []string{"", "b", "bc", "b|c", "b*", "^", "$"}
	behind   = []string{"", "b", "bc", "(?:b|c)", "b*", "^", "$"}
	first    = []string{"(?:)", "b", "bc", "(?:b|c)", "b*", "^", "-"}
	second   = []string{"(?:)", "b", "(?:bc)", "(?:b|c)", "b*", "-", "$"}
	repeated = []string{"(?:)", "b", "(?:bc)", "(?:b|c)", "(?:b*)", "-", "-"}
)

func TestEachKindWithinEach(t *testing.T) {
	for i, x := range kinds() {
		for k, y := range kinds() {
			says(t, alt(x, y).tree(), ahead[i]+"|"+behind[k])
			if text := first[i] + second[k]; strings.Contains(text, "-") {
				refuses(t, cat(x, y).tree(), api.ErrAnchor)
			} else {
				says(t, cat(x, y).tree(), text)
			}
		}
		for _, bounds := range []struct {
			s    *shape
			text string
		}{{rep(x, 0, -1), "*"}, {lazy(x, 0, 1), "??"}, {rep(x, 2, 2), "{2}"}, {lazy(x, 3, -1), "{3,}?"}, {rep(x, 0, 0), "{0}"}} {
			if repeated[i] == "-" {
				refuses(t, bounds.s.tree(), api.ErrAnchor)
			} else {
				says(t, bounds.s.tree(), repeated[i]+bounds.text)
			}
		}
	}
}

// One more node around these: a group's text hangs on its own parts alone.
func TestEachKindWithinGroups(t *testing.T) {
	for i, x := range kinds() {
		for k, y := range kinds() {
			says(t, alt(a, alt(x, y)).tree(), "a|(?:"+ahead[i]+"|"+behind[k]+")")
			says(t, alt(alt(x, y), a).tree(), ahead[i]+"|"+behind[k]+"|a")
			if text := first[i] + second[k]; !strings.Contains(text, "-") {
				says(t, alt(a, cat(x, y)).tree(), "a|"+text)
			}
			if text := first[i] + second[k]; !strings.ContainsAny(text, "^$-") {
				says(t, cat(cat(x, y), a).tree(), text+"a")
				says(t, cat(a, cat(x, y)).tree(), "a(?:"+text+")")
				says(t, rep(cat(x, y), 1, -1).tree(), "(?:"+text+")+")
				says(t, cat(a, rep(cat(x, y), 1, 5)).tree(), "a(?:"+text+"){1,5}")
				says(t, rep(alt(x, y), 1, -1).tree(), "(?:"+ahead[i]+"|"+behind[k]+")+")
				says(t, cat(alt(x, y), alt(y, x)).tree(), "(?:"+ahead[i]+"|"+behind[k]+")(?:"+ahead[k]+"|"+behind[i]+")")
			}
		}
	}
}

func TestEmptyParts(t *testing.T) {
	says(t, alt(empty, empty).tree(), "|")
	says(t, alt(alt(empty, empty), empty).tree(), "||")
	says(t, alt(empty, alt(empty, empty)).tree(), "|(?:|)")
	says(t, cat(empty, empty).tree(), "(?:)(?:)")
	says(t, cat(cat(empty, empty), empty).tree(), "(?:)(?:)(?:)")
	says(t, cat(empty, cat(empty, empty)).tree(), "(?:)(?:(?:)(?:))")
	says(t, rep(empty, 0, -1).tree(), "(?:)*")
	says(t, rep(rep(empty, 0, -1), 1, 1).tree(), "(?:(?:)*){1}")
	says(t, cat(hat, empty).tree(), "^(?:)")
	says(t, cat(empty, dollar).tree(), "(?:)$")
	says(t, cat(alt(hat, empty), alt(empty, dollar)).tree(), "(?:^|)(?:|$)")
}

func TestPatternOfManyShapes(t *testing.T) {
	for _, s := range some() {
		says(t, s.tree(), s.text())
	}
	for nodes := 1; nodes <= 5; nodes++ {
		each(nodes, []*shape{empty, a}, func(s *shape) { says(t, s.tree(), s.text()) })
	}
}

// Errors

func TestWhatIsNoTree(t *testing.T) {
	for _, x := range refused() {
		refuses(t, x, api.ErrTree)
	}
}

func TestWrongAnchors(t *testing.T) {
	for _, s := range astray() {
		refuses(t, s.tree(), api.ErrAnchor)
	}
	refuses(t, alt(row(1000, api.NdAlt, a, true), rep(hat, 0, 1)).tree(), api.ErrAnchor)
}

func TestClassOfNoByte(t *testing.T) {
	for _, s := range []*shape{never, cat(a, never), cat(never, a), alt(never, a), alt(a, never), rep(never, 0, -1), rep(never, 0, 0), cat(hat, cat(never, dollar)), alt(alt(a, b), alt(c, rep(alt(empty, never), 2, 2)))} {
		refuses(t, s.tree(), api.ErrNever)
	}
}

func TestWhichErrorComesFirst(t *testing.T) {
	for _, s := range astray() {
		refuses(t, alt(s, never).tree(), api.ErrAnchor)
		refuses(t, alt(never, s).tree(), api.ErrAnchor)
		refuses(t, alt(row(900, api.NdAlt, a, false), alt(never, s)).tree(), api.ErrAnchor)
	}
	wrong := alt(never, a).tree()
	wrong.Nodes[1].Least = 1
	refuses(t, wrong, api.ErrTree)
	wrong = alt(never, cat(a, hat)).tree()
	wrong.Nodes = append(wrong.Nodes, empty.node)
	refuses(t, wrong, api.ErrTree)
	wrong = alt(never, row(1024, api.NdCat, cat(a, hat), false)).tree()
	refuses(t, wrong, api.ErrTree)
	for _, left := range []bool{true, false} {
		long := row(1020, api.NdAlt, a, left)
		refuses(t, alt(never, long).tree(), api.ErrNever)
		refuses(t, alt(long, never).tree(), api.ErrNever)
		refuses(t, rep(cat(long, never), 0, -1).tree(), api.ErrNever)
	}
}

// The longest text

// filled is a row whose text has so many bytes, and that text.
func filled(many int) (*shape, string) {
	s := row(many/4, api.NdCat, set(raw('a', 'c')), true)
	for range many % 4 {
		s = cat(s, a)
	}
	return s, strings.Repeat("[ac]", many/4) + strings.Repeat("a", many%4)
}

func TestTheLongestText(t *testing.T) {
	s := row(1024, api.NdCat, a, true)
	says(t, s.tree(), strings.Repeat("a", 1024))
	if p, e := print.Pattern(s.tree()); len(p) != api.MaxPattern || e != api.OK {
		t.Error(len(p), e)
	}
	s.b = one('.')
	if p, e := print.Pattern(s.tree()); p != nil || e != api.ErrLong {
		t.Error(len(p), e)
	}
	if n, e := print.Length(s.tree()); n != api.MaxPattern+1 || e != api.OK {
		t.Error(n, e)
	}
}

// What comes last is of each kind, and ends ahead of the limit, at it, and behind it.
func TestTextsAboutTheLimit(t *testing.T) {
	for _, x := range []struct {
		last *shape
		text string
	}{
		{a, "a"}, {one('.'), `\.`}, {one(0), `\x00`}, {set(all('a', 'z')), "[a-z]"}, {set(noNewline), `[\x00-\x09\x0b-\xff]`}, {rep(b, 0, -1), "b*"}, {lazy(b, 2, 3), "b{2,3}?"}, {lazy(b, 999, 1000), "b{999,1000}?"},
		{cat(b, c), "(?:bc)"}, {alt(b, c), "(?:b|c)"}, {empty, "(?:)"}, {rep(alt(b, c), 2, 2), "(?:b|c){2}"}, {rep(rep(b, 0, 1), 0, 1), "(?:b?)?"}, {cat(a, cat(b, c)), "(?:a(?:bc))"},
	} {
		for n := 1016; n <= 1034; n++ {
			s, text := filled(n - len(x.text))
			says(t, cat(s, x.last).tree(), text+x.text)
			says(t, cat(cat(s, x.last), dollar).tree(), text+x.text+"$")
			says(t, alt(cat(s, x.last), empty).tree(), text+x.text+"|")
			says(t, rep(cat(s, x.last), 0, 1).tree(), "(?:"+text+x.text+")?")
			says(t, alt(a, alt(b, cat(s, x.last))).tree(), "a|(?:b|"+text+x.text+")")
		}
	}
}

func TestLengthOfFarLongerTexts(t *testing.T) {
	for _, x := range []struct {
		s    *shape
		want int
	}{
		{row(1024, api.NdAlt, a, true), 1024 + 1023},
		{row(1024, api.NdAlt, a, false), 1024 + 1023 + 4*1022},
		{row(1024, api.NdCat, a, false), 1024 + 4*1022},
		{row(1024, api.NdCat, empty, true), 4 * 1024},
		{row(1024, api.NdCat, empty, false), 4*1024 + 4*1022},
		{row(1024, api.NdAlt, set(noNewline), true), 1024*20 + 1023},
		{row(1024, api.NdCat, set(noNewline), true), 1024 * 20},
		{pile(2047, a), 1 + 2047 + 4*2046},
		{pile(2047, empty), 2047 + 4*2047},
	} {
		refusesAsLong(t, x.s.tree(), x.want)
	}
	wide := set(every(3, 2))
	refusesAsLong(t, row(1024, api.NdCat, wide, false).tree(), 1024*len(classText(wide.node.Class))+4*1022)
}

// refusesAsLong fails unless the tree has a text of so many bytes, which is too long.
func refusesAsLong(t *testing.T, x api.Tree, want int) {
	t.Helper()
	if p, e := print.Pattern(x); p != nil || e != api.ErrLong {
		t.Errorf("Pattern %q, error %d", p, e)
	}
	if n, e := print.Length(x); n != want || e != api.OK {
		t.Errorf("Length %d, error %d; not %d", n, e, want)
	}
}

func TestGreatTrees(t *testing.T) {
	for _, s := range great() {
		x := s.tree()
		if len(x.Nodes) != api.MaxNodes {
			t.Fatal(len(x.Nodes))
		}
		says(t, x, s.text())
	}
	// The shortest texts of so many nodes: one byte more than there may be, and with a node less just as many.
	for _, x := range []struct {
		s     *shape
		nodes int
		want  string
	}{
		{cat(row(1023, api.NdCat, a, true), rep(b, 0, -1)), 2048, strings.Repeat("a", 1023) + "b*"},
		{alt(row(1023, api.NdAlt, empty, true), rep(b, 0, -1)), 2048, strings.Repeat("|", 1023) + "b*"},
		{alt(rep(b, 0, -1), row(1023, api.NdAlt, empty, true)), 2048, "b*|(?:" + strings.Repeat("|", 1022) + ")"},
		{row(1024, api.NdCat, a, true), 2047, strings.Repeat("a", 1024)},
		{row(1024, api.NdAlt, empty, true), 2047, strings.Repeat("|", 1023)},
		{alt(row(1023, api.NdAlt, empty, true), b), 2047, strings.Repeat("|", 1023) + "b"},
	} {
		if n := len(x.s.tree().Nodes); n != x.nodes {
			t.Fatal(n)
		}
		says(t, x.s.tree(), x.want)
	}
}
