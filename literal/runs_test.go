package literal_test

import (
	"slices"
	"strings"
	"testing"

	"riddle/api"
	"riddle/literal"
	"riddle/normal"
)

// P15.3

func runsOf(x api.Tree) []run {
	var l []run
	for first, letters := range literal.Runs(x) {
		l = append(l, run{first: first, letters: letters})
	}
	return l
}

// runsAre fails unless these runs are told of s, each a number of its first part and its letters as lit reads them, and Best is the one told by its number, if it is not below 0.
func runsAre(t *testing.T, s *shape, best int, want ...run) {
	t.Helper()
	x := s.tree()
	isRuns(t, text(x), runsOf(x), want)
	bestIs(t, x, best, want...)
}

func bestIs(t *testing.T, x api.Tree, best int, want ...run) {
	t.Helper()
	l, first, is := literal.Best(x)
	if best < 0 {
		if l != nil || first != 0 || is {
			t.Errorf("%s: the best is %s, %d, %t", text(x), show(l), first, is)
		}
		return
	}
	r := want[best]
	if !sameLiteral(l, r.letters[:min(16, len(r.letters))]) || first != r.first || !is {
		t.Errorf("%s: the best is %s, %d, %t", text(x), show(l), first, is)
	}
}

func told(first int, letters string) run { return run{first: first, letters: lit(letters)} }

func TestRunsOfTreesThatAreNotPlain(t *testing.T) {
	for _, x := range unfit() {
		if normal.Is(x) {
			t.Fatal("it is plain:", text(x))
		}
		isRuns(t, text(x), runsOf(x), nil)
		bestIs(t, x, -1)
	}
}

func TestRunsOfOnePart(t *testing.T) {
	runsAre(t, a, -1, told(0, "a"))
	runsAre(t, set("A"), -1, told(0, "A"))
	runsAre(t, set("\x00"), -1, told(0, "\x00"))
	runsAre(t, set("\xff"), -1, told(0, "\xff"))
	runsAre(t, both, -1, told(0, "~a"))
	for _, s := range []*shape{empty, hat, dollar, never, dots, ab, set("aB"), set("@`"), set("Aab"), star(a), star(both), star(cat(a, b)), star(star(a)), alt(a, b), alt(a, a), alt(cat(a, b), cat(a, b)), alt(word("abcd"), empty)} {
		runsAre(t, s, -1)
	}
}

func TestRunsFirstAndLast(t *testing.T) {
	runsAre(t, word("ab"), 0, told(0, "ab"))
	runsAre(t, cat(a, b, dots), 0, told(0, "ab"))
	runsAre(t, cat(dots, a, b), 0, told(1, "ab"))
	runsAre(t, cat(dots, a, b, dots), 0, told(1, "ab"))
	runsAre(t, cat(a, b, dots, b, a, c), 1, told(0, "ab"), told(3, "bac"))
	runsAre(t, cat(a, star(b), c, c, b), 1, told(0, "a"), told(2, "ccb"))
	runsAre(t, cat(a, dots, dots, b, c, star(a), star(a), b), 1, told(0, "a"), told(3, "bc"), told(7, "b"))
	runsAre(t, cat(star(a), star(b), alt(a, b)), -1)
	runsAre(t, cat(dots, a, dots), -1, told(1, "a"))
	runsAre(t, cat(dots, both, b, both), 0, told(1, "~ab~a"))
	runsAre(t, cat(empty, hat, a), -1, told(2, "a"))
}

// Next to each other in the text, but parted by a part of another kind.
func TestRunsThatArePartedByNothing(t *testing.T) {
	for _, s := range []*shape{empty, hat, dollar, never, star(a), alt(a, b), star(star(empty)), alt(empty, empty), ab} {
		runsAre(t, cat(a, b, s, c, a, b), 1, told(0, "ab"), told(3, "cab"))
		runsAre(t, cat(a, s, b), -1, told(0, "a"), told(2, "b"))
		runsAre(t, cat(s, a, b, s, s, c, s), 0, told(1, "ab"), told(5, "c"))
	}
}

// Of whatever parts the NdCats join; what stands in another part is none of it.
func TestRunsOfEachWayToJoin(t *testing.T) {
	for _, join := range []func(l ...*shape) *shape{func(l ...*shape) *shape { return cat(l[0], l[1:]...) }, right, halves} {
		runsAre(t, join(row("ab~cd")...), 0, told(0, "ab~cd"))
		runsAre(t, join(a, b, dots, c), 0, told(0, "ab"), told(3, "c"))
		runsAre(t, join(star(join(a, b)), c, alt(join(a, b, c), a), b, c), 1, told(1, "c"), told(3, "bc"))
		runsAre(t, star(join(a, b, c)), -1)
		runsAre(t, alt(join(a, b), join(a, b, c)), -1)
		runsAre(t, join(join(a, dots), join(b, c), join(join(dots, a), b)), 1, told(0, "a"), told(2, "bc"), told(5, "ab"))
	}
}

// Anchors are parts like others, also where they cannot stand.
func TestRunsWithAnchors(t *testing.T) {
	runsAre(t, cat(hat, a, b, dollar), 0, told(1, "ab"))
	runsAre(t, cat(a, hat), -1, told(0, "a"))
	runsAre(t, cat(a, b, hat, c), 0, told(0, "ab"), told(3, "c"))
	runsAre(t, cat(dollar, a, b), 0, told(1, "ab"))
	runsAre(t, cat(star(hat), a, b, hat, hat, b), 0, told(1, "ab"), told(5, "b"))
}

func TestRunsOfEachClass(t *testing.T) {
	for lo := range 256 {
		for _, hi := range []int{lo, lo + 1, lo + 31, lo + 32, lo + 33} {
			s := aClass(raw(byte(lo), byte(hi)))
			want := []run{told(2, "a")}
			if l, is := letterOf(s.node.Class); is {
				want = []run{{first: 0, letters: api.Literal{l}}, {first: 2, letters: api.Literal{{Byte: 'a'}, l}}}
			}
			x := cat(s, dots, a, s).tree()
			isRuns(t, text(x), runsOf(x), want)
		}
	}
}

// asTold fails unless Runs and Best answer what the words of the chapter say of s; it answers how many runs there are.
func asTold(t *testing.T, s *shape) int {
	t.Helper()
	x := s.tree()
	want := s.runs()
	isRuns(t, text(x), runsOf(x), want)
	best, has := s.best()
	if l, first, is := literal.Best(x); !sameLiteral(l, best.letters) || first != best.first || is != has || !is && l != nil {
		t.Fatalf("%s: the best is %s, %d, %t", text(x), show(l), first, is)
	}
	return len(want)
}

func TestRunsOfAllSmall(t *testing.T) {
	many := map[int]int{}
	for nodes := 1; nodes <= 5; nodes++ {
		each(nodes, []*shape{a, b, both, ab, empty, hat}, func(s *shape) { many[asTold(t, s)]++ })
	}
	each(7, []*shape{a, dots}, func(s *shape) { many[asTold(t, s)]++ })
	if many[0] < 5000 || many[1] < 500 || many[2] < 50 {
		t.Error(many)
	}
}

func TestRunsOfManyTrees(t *testing.T) {
	r := chance(31)
	many, found, long := 0, 0, 0
	for range 4000 {
		s := r.sequence(1 + r.below(60))
		many += asTold(t, s)
		if best, is := s.best(); is {
			found++
			if len(best.letters) == 16 {
				long++
			}
		}
	}
	for _, s := range plain() {
		asTold(t, s)
	}
	if many < 10000 || found < 3000 || long < 500 {
		t.Error(many, found, long)
	}
}

// As many nodes as there may be.
func TestRunsOfGreatTrees(t *testing.T) {
	l := row(strings.Repeat("ab~c", 341) + "d")
	for _, s := range []*shape{cat(l[0], l[1:]...), right(l...), halves(l...)} {
		if n := s.size(); n != 2047 {
			t.Fatal(n)
		}
		asTold(t, s)
		if got := runsOf(s.tree()); len(got) != 1 || len(got[0].letters) != 1024 {
			t.Error(len(got))
		}
	}
	// So many runs of one letter each, of which none is the best.
	for k := 1; k < len(l); k += 2 {
		l[k] = dots
	}
	for _, s := range []*shape{cat(l[0], l[1:]...), right(l...), halves(l...)} {
		if n := asTold(t, s); n != 512 {
			t.Error(n)
		}
	}
	s := a
	for range 2047 {
		s = star(s)
	}
	asTold(t, s)
}

func TestBest(t *testing.T) {
	// Of runs of one letter alone there is none.
	runsAre(t, cat(a, dots, b, star(a), c), -1, told(0, "a"), told(2, "b"), told(4, "c"))
	runsAre(t, cat(a, dots, b, c), 1, told(0, "a"), told(2, "bc"))
	// Of two of the same length it is the first one.
	runsAre(t, cat(a, b, dots, b, c), 0, told(0, "ab"), told(3, "bc"))
	runsAre(t, cat(a, dots, b, c, dots, c, a, dots, b, b), 1, told(0, "a"), told(2, "bc"), told(5, "ca"), told(8, "bb"))
	// The longest one, wherever it is.
	runsAre(t, cat(a, b, c, dots, b, c, dots, a), 0, told(0, "abc"), told(4, "bc"), told(7, "a"))
	runsAre(t, cat(a, b, dots, a, b, c, dots, c, a), 1, told(0, "ab"), told(3, "abc"), told(7, "ca"))
	runsAre(t, cat(a, b, dots, c, a, b, c), 1, told(0, "ab"), told(3, "cabc"))
	runsAre(t, cat(both, both, dots, b, c, both), 1, told(0, "~a~a"), told(3, "bc~a"))
}

func TestBestOfLongRuns(t *testing.T) {
	alphabet := "abcdefghijklmnopqrstuvwxyz"
	for many := 2; many <= 26; many++ {
		s := cat(star(a), row(alphabet[:many])...)
		runsAre(t, s, 0, told(1, alphabet[:many]))
		l, _, _ := literal.Best(s.tree())
		if len(l) != min(16, many) {
			t.Errorf("%d: %d letters", many, len(l))
		}
	}
	// Which is the longest one is told by all letters, not by those that are answered.
	for _, x := range []struct{ first, second, best int }{{16, 16, 0}, {15, 16, 1}, {16, 17, 1}, {17, 16, 0}, {17, 17, 0}, {17, 18, 1}, {16, 26, 1}, {26, 25, 0}, {2, 16, 1}, {1, 2, 1}, {16, 1, 0}} {
		one, other := alphabet[:x.first], strings.ToUpper(alphabet[:x.second])
		parts := append(row(one), dots)
		parts = append(parts, row(other)...)
		runsAre(t, cat(parts[0], parts[1:]...), x.best, told(0, one), told(x.first+1, other))
	}
}

// Of which no more are asked for.
func TestRunsAreLeft(t *testing.T) {
	for _, s := range []*shape{a, empty, cat(a, dots, b, c), cat(dots, a, b, empty, c), cat(a, empty, b, empty, c, empty), cat(a, b, dots)} {
		want := s.runs()
		all := literal.Runs(s.tree())
		again := func() []run {
			var l []run
			for first, letters := range all {
				l = append(l, run{first: first, letters: letters})
			}
			return l
		}
		for many := range len(want) + 1 {
			var got []run
			for first, letters := range all {
				if len(got) == many {
					break
				}
				got = append(got, run{first: first, letters: letters})
			}
			isRuns(t, text(s.tree()), got, want[:many])
		}
		isRuns(t, text(s.tree()), again(), want)
		for range all {
			isRuns(t, text(s.tree()), again(), want)
		}
	}
}

func TestRunsTellWhatWasThere(t *testing.T) {
	s := cat(a, b, dots, c, both)
	x := s.tree()
	all := literal.Runs(x)
	for i := range x.Nodes {
		x.Nodes[i] = api.Node{Kind: api.NdEmpty}
	}
	var got []run
	for first, letters := range all {
		got = append(got, run{first: first, letters: letters})
	}
	isRuns(t, "written to behind the call", got, s.runs())

	// What was no plain tree when it was asked for tells nothing, also when it is one later on.
	x = cat(a, rep(b, 1, 1)).tree()
	all = literal.Runs(x)
	x.Nodes[2] = api.Node{Kind: api.NdRep, A: 1, Most: -1}
	if !normal.Is(x) {
		t.Fatal(text(x))
	}
	for first, letters := range all {
		t.Error(first, letters)
	}

	x = s.tree()
	got = nil
	for first, letters := range literal.Runs(x) {
		clear(x.Nodes)
		got = append(got, run{first: first, letters: slices.Clone(letters)})
		// And what was told is nobody else's.
		letters = append(letters, api.Letter{Byte: '?'})
		for i := range letters[:cap(letters)] {
			letters[:cap(letters)][i] = api.Letter{Byte: '!'}
		}
	}
	isRuns(t, "written to in the range", got, s.runs())
}

func TestExamples(t *testing.T) {
	x := cat(a, star(b), c, set("d"), set("e"))
	runsAre(t, x, 1, told(0, "a"), told(2, "cde"))
	runsAre(t, cat(both, set("Bb")), 0, told(0, "~a~b"))
}
