package nfa_test

import (
	"fmt"
	"iter"
	"math"
	"slices"
	"testing"

	"riddle/api"
	"riddle/glushkov"
	"riddle/nfa"
)

// P11.2

func TestExamples(t *testing.T) {
	n := of(t, "ab*")
	isTold(t, "Ends", nfa.Ends(n, []byte("abbc"), 0), []int{1, 2, 3})
	isTold(t, "Events", nfa.Events(n, []byte("xabab"), false, false), []int{2, 3, 4, 5})
}

func TestEndsByHand(t *testing.T) {
	for _, x := range []struct {
		pattern, text string
		from          int
		want          []int
	}{
		{"ab*", "abbc", 1, nil},
		{"ab*", "abbc", 4, nil},
		{"ab*", "xab", 1, []int{2, 3}},
		{"a*", "aab", 0, []int{0, 1, 2}},
		{"a*", "aab", 1, []int{1, 2}},
		{"a*", "aab", 2, []int{2}},
		{"a*", "aab", 3, []int{3}},
		{"a*", "", 0, []int{0}},
		{"a", "", 0, nil},
		{"", "abc", 2, []int{2}},
		{"(?:ab)*", "ababab", 2, []int{2, 4, 6}},
		{"(?:ab)*", "ababab", 1, []int{1}},
		{"a|ab|abcd", "abcde", 0, []int{1, 2, 4}},
		{"a.*b", "ab\nab", 0, []int{2}},
		{"a[^x]*b", "ab\nab", 0, []int{2, 5}},
	} {
		isTold(t, fmt.Sprintf("%s in %q from %d", x.pattern, x.text, x.from), nfa.Ends(of(t, x.pattern), []byte(x.text), x.from), x.want)
	}
}

// A text begins at from alone, though it could begin behind it, too.
func TestEndsOfOneBeginning(t *testing.T) {
	isTold(t, "aa in aaaa", nfa.Ends(of(t, "aa"), []byte("aaaa"), 1), []int{3})
	isTold(t, "a behind a newline", nfa.Ends(of(t, "a"), []byte("a\na\na"), 0), []int{1})
	isTold(t, "b in ab", nfa.Ends(of(t, "b"), []byte("ab"), 0), nil)
}

func TestEnds(t *testing.T) {
	r := chance(21)
	told := 0
	for _, n := range append(small(), automata()...) {
		texts := [][]byte{nil, []byte("a"), {0}, {255}, {0, 255, 0}, r.text(7), r.text(12)}
		for _, w := range texts {
			for from := range len(w) + 1 {
				want := ends(n, w, from)
				isTold(t, fmt.Sprintf("%s %q %d", show(n), w, from), nfa.Ends(n, w, from), want)
				told += len(want)
			}
		}
	}
	if told < 1500 {
		t.Error(told)
	}
}

func TestEndsWhereThereIsNoPlace(t *testing.T) {
	w := []byte("aaa")
	for _, n := range []api.Nfa{everything(2), of(t, "a*"), of(t, "a+"), {Null: true}, {}} {
		for _, from := range []int{-1, -2, -3, -64, math.MinInt, math.MinInt + 1, 4, 5, 64, math.MaxInt} {
			isTold(t, fmt.Sprint(show(n), from), nfa.Ends(n, w, from), nil)
		}
		for _, from := range []int{-1, 1, math.MinInt, math.MaxInt} {
			isTold(t, fmt.Sprint(show(n), from), nfa.Ends(n, nil, from), nil)
			isTold(t, fmt.Sprint(show(n), from), nfa.Ends(n, w[:0], from), nil)
		}
	}
}

func TestEndsAtTheEdges(t *testing.T) {
	w := []byte("aaa")
	isTold(t, "everything, from 0", nfa.Ends(everything(3), w, 0), []int{0, 1, 2, 3})
	isTold(t, "everything, from the end", nfa.Ends(everything(3), w, 3), []int{3})
	isTold(t, "everything, of no bytes", nfa.Ends(everything(3), nil, 0), []int{0})
	one := everything(3)
	one.Null = false
	isTold(t, "not Null, from 0", nfa.Ends(one, w, 0), []int{1, 2, 3})
	isTold(t, "not Null, from the end", nfa.Ends(one, w, 3), nil)
	isTold(t, "not Null, of no bytes", nfa.Ends(one, nil, 0), nil)
	isTold(t, "no positions, Null", nfa.Ends(glushkov.Empty(), w, 1), []int{1})
	isTold(t, "no positions", nfa.Ends(api.Nfa{}, w, 1), nil)
	// What w has behind its end is not looked at.
	isTold(t, "a part", nfa.Ends(everything(1), w[:2], 1), []int{1, 2})
}

func TestPlacesOfAutomataThatMayNotBe(t *testing.T) {
	for _, n := range wrong() {
		for _, w := range []string{"", "a", "ab\na"} {
			for from := -1; from <= len(w)+1; from++ {
				isTold(t, show(n), nfa.Ends(n, []byte(w), from), nil)
			}
			for _, x := range fourWays() {
				isTold(t, show(n), nfa.Events(n, []byte(w), x.hat, x.multi), nil)
			}
		}
	}
}

type way struct{ hat, multi bool }

func fourWays() []way { return []way{{false, false}, {false, true}, {true, false}, {true, true}} }

func TestEventsByHand(t *testing.T) {
	for _, x := range []struct {
		pattern, text          string
		anywhere, first, lines []int
	}{
		{"a", "aba", []int{1, 3}, []int{1}, []int{1}},
		{"a", "ba\na", []int{2, 4}, nil, []int{4}},
		{"ab*", "xabab", []int{2, 3, 4, 5}, nil, nil},
		{"aa", "aaaa", []int{2, 3, 4}, []int{2}, []int{2}},
		{"a*", "baab", []int{2, 3}, nil, nil},
		{"a*", "", nil, nil, nil},
		{"", "a\nb", nil, nil, nil},
		{"a", "a\n", []int{1}, []int{1}, []int{1}},
		{"a", "\na", []int{2}, nil, []int{2}},
		{"a", "\n\n\na", []int{4}, nil, []int{4}},
		{"a", "\ra\va\fa\x0ba\x09a\x00a\xffa", []int{2, 4, 6, 8, 10, 12, 14}, nil, nil},
		{"[^x]*b", "ab\ncb", []int{2, 5}, []int{2, 5}, []int{2, 5}},
		{`\n`, "\n\n", []int{1, 2}, []int{1}, []int{1, 2}},
		{`a\nb|b`, "a\nb\nb", []int{3, 5}, []int{3}, []int{3, 5}},
		{"a|ab|b", "ab\nab", []int{1, 2, 4, 5}, []int{1, 2}, []int{1, 2, 4, 5}},
	} {
		n, w := of(t, x.pattern), []byte(x.text)
		what := fmt.Sprintf("%q in %q", x.pattern, x.text)
		isTold(t, what, nfa.Events(n, w, false, false), x.anywhere)
		isTold(t, what, nfa.Events(n, w, false, true), x.anywhere)
		isTold(t, what+" at 0", nfa.Events(n, w, true, false), x.first)
		isTold(t, what+" at lines", nfa.Events(n, w, true, true), x.lines)
	}
}

func TestEvents(t *testing.T) {
	r := chance(22)
	told := map[way]int{}
	for _, n := range append(small(), automata()...) {
		for _, w := range [][]byte{nil, []byte("a"), []byte("\n"), []byte("a\n"), []byte("b\na"), {0, 255}, r.text(6), r.text(10), r.text(10)} {
			for _, x := range fourWays() {
				want := events(n, w, x.hat, x.multi)
				isTold(t, fmt.Sprintf("%s %q %v", show(n), w, x), nfa.Events(n, w, x.hat, x.multi), want)
				told[x] += len(want)
			}
		}
	}
	for _, x := range fourWays() {
		if told[x] < 500 {
			t.Error(told)
		}
	}
}

// The empty text is never told: nothing at 0, and nothing for Null's sake elsewhere.
func TestEventsNeverTellTheEmptyText(t *testing.T) {
	null := blank(3)
	null.Null = true
	for _, x := range fourWays() {
		for _, w := range []string{"", "a", "\n", "a\nb\n"} {
			isTold(t, "Empty", nfa.Events(glushkov.Empty(), []byte(w), x.hat, x.multi), nil)
			isTold(t, "Null alone", nfa.Events(null, []byte(w), x.hat, x.multi), nil)
			isTold(t, "x*", nfa.Events(of(t, "x*"), []byte(w), x.hat, x.multi), nil)
		}
		isTold(t, "everything, of no bytes", nfa.Events(everything(1), nil, x.hat, x.multi), nil)
		isTold(t, "everything", nfa.Events(everything(1), []byte("b\na"), x.hat, x.multi), []int{1, 2, 3})
	}
}

// With hat and multi a text may begin behind a byte 10, and behind no other.
func TestEventsBehindEachByte(t *testing.T) {
	n := of(t, "a")
	for b := range 256 {
		w := []byte{'b', byte(b), 'a'}
		first := []int{}
		if b == 10 {
			first = []int{3}
		}
		isTold(t, fmt.Sprint(b), nfa.Events(n, w, true, true), first)
		isTold(t, fmt.Sprint(b), nfa.Events(n, w, true, false), nil)
	}
}

// A byte 10 at the end lets a text begin at which nothing can end any more.
func TestEventsWithANewlineAtTheEnd(t *testing.T) {
	for _, x := range fourWays() {
		isTold(t, "a*", nfa.Events(of(t, "a*"), []byte("a\n"), x.hat, x.multi), []int{1})
		isTold(t, "everything", nfa.Events(everything(2), []byte("\n"), x.hat, x.multi), []int{1})
	}
	// And what w has behind its end is not looked at.
	w := []byte("b\na")
	isTold(t, "a part", nfa.Events(of(t, "a"), w[:2], true, true), nil)
}

func TestPlacesOfManyBytes(t *testing.T) {
	w := slices.Repeat([]byte("ab\n"), 1<<17)
	for _, x := range []struct {
		way
		want int
	}{{way{false, false}, 1 << 17}, {way{true, false}, 1}, {way{true, true}, 1 << 17}} {
		many := 0
		for j := range nfa.Events(of(t, "ab"), w, x.hat, x.multi) {
			if j%3 != 2 {
				t.Fatal(j)
			}
			many++
		}
		if many != x.want {
			t.Error(x, many)
		}
	}
	many := 0
	for j := range nfa.Ends(of(t, "b(?:\nab)*"), w, 1) {
		if j%3 != 2 {
			t.Fatal(j)
		}
		many++
	}
	if many != 1<<17 {
		t.Error(many)
	}
	// As many positions as there may be, all of them alive.
	isTold(t, "the last ones", nfa.Events(of(t, "[^x]{512}"), w[:1<<10], true, false), []int{512})
	if got := slices.Collect(nfa.Events(of(t, "[^x]{512}"), w[:1<<12], false, false)); len(got) != 1<<12-511 || got[0] != 512 {
		t.Error(len(got))
	}
}

// leftEarly fails unless told goes through want however early it is left, and again, and within itself.
func leftEarly(t *testing.T, what string, told iter.Seq[int], want []int) {
	t.Helper()
	for stop := range want {
		var got []int
		for j := range told {
			got = append(got, j)
			if len(got) == stop+1 {
				break
			}
		}
		if !slices.Equal(got, want[:stop+1]) {
			t.Fatalf("%s: %v, not %v", what, got, want[:stop+1])
		}
	}
	k := 0
	for j := range told {
		if j != want[k] {
			t.Fatalf("%s: %d, not %d", what, j, want[k])
		}
		k++
		isTold(t, what+" within itself", told, want)
	}
	if k != len(want) {
		t.Fatalf("%s: %d of them", what, k)
	}
}

func TestPlacesLeftEarly(t *testing.T) {
	w := []byte("aab\naabaa\n\na")
	for _, n := range []api.Nfa{everything(2), of(t, "a*"), of(t, "a*b|aab\n"), of(t, "(?:a|b|\n)*a"), {Null: true}} {
		for from := range len(w) + 1 {
			leftEarly(t, "Ends", nfa.Ends(n, w, from), ends(n, w, from))
		}
		for _, x := range fourWays() {
			leftEarly(t, "Events", nfa.Events(n, w, x.hat, x.multi), events(n, w, x.hat, x.multi))
		}
	}
}

// Left early, nothing is told any more: of Null's place, too.
func TestNothingIsToldBehindALeave(t *testing.T) {
	for stop := 1; stop < 5; stop++ {
		for _, told := range []iter.Seq[int]{nfa.Ends(everything(2), []byte("aaaa"), 0), nfa.Events(everything(2), []byte("aaaaa"), false, false)} {
			many := 0
			told(func(int) bool {
				many++
				return many < stop
			})
			if many != stop {
				t.Errorf("left at %d: %d of them", stop, many)
			}
		}
	}
}
