package reverse_test

import (
	"fmt"
	"iter"
	"math"
	"slices"
	"testing"

	"riddle/api"
	"riddle/glushkov"
	"riddle/reverse"
)

// isLeast fails unless Least answers want and true; 0 and false, if want is -1.
func isLeast(t *testing.T, what string, n api.Nfa, w []byte, end int, v way, want int) {
	t.Helper()
	at, is := reverse.Least(n, w, end, v.hat, v.multi)
	if at != max(want, 0) || is != (want >= 0) {
		t.Fatalf("%s: Least at %d %v is %d, %t, not %d", what, end, v, at, is, want)
	}
}

// P12.2

func TestExample(t *testing.T) {
	n := of(t, "a+b")
	isTold(t, "Starts", reverse.Starts(n, []byte("aab"), 3), []int{1, 0})
	isLeast(t, "Least", n, []byte("aab"), 3, way{}, 0)
}

func TestStartsByHand(t *testing.T) {
	for _, x := range []struct {
		pattern, text string
		end           int
		want          []int
	}{
		{"a+b", "aab", 2, nil},
		{"a+b", "aab", 0, nil},
		{"a+b", "aabaab", 6, []int{4, 3}},
		{"a*", "aab", 3, []int{3}},
		{"a*", "aab", 2, []int{2, 1, 0}},
		{"a*", "aab", 1, []int{1, 0}},
		{"a*", "aab", 0, []int{0}},
		{"a*", "", 0, []int{0}},
		{"a", "", 0, nil},
		{"", "abc", 2, []int{2}},
		{"(?:ab)*", "ababab", 4, []int{4, 2, 0}},
		{"(?:ab)*", "ababab", 5, []int{5}},
		{"d|cd|abcd", "xabcd", 5, []int{4, 3, 1}},
		{"aa", "aaaa", 3, []int{1}},
		{"a.*b", "ab\nab", 5, []int{3}},
		{"a[^x]*b", "ab\nab", 5, []int{3, 0}},
		{`\x00\xff*`, "\x00\xff\xff", 3, []int{0}},
	} {
		isTold(t, fmt.Sprintf("%s in %q at %d", x.pattern, x.text, x.end), reverse.Starts(of(t, x.pattern), []byte(x.text), x.end), x.want)
	}
}

func TestStartsAndLeast(t *testing.T) {
	r := chance(21)
	told, found := 0, map[way]int{}
	for _, n := range append(small(), automata()...) {
		for _, w := range [][]byte{nil, []byte("a"), []byte("\n"), {0}, {255}, {0, 255, 0}, []byte("b\na"), r.text(7), r.text(12)} {
			for end := range len(w) + 1 {
				what := fmt.Sprintf("%s %q %d", show(n), w, end)
				want := starts(n, w, end)
				isTold(t, what, reverse.Starts(n, w, end), want)
				told += len(want)
				for _, v := range fourWays() {
					want := least(n, w, end, v)
					isLeast(t, what, n, w, end, v, want)
					if want >= 0 {
						found[v]++
					}
				}
			}
		}
	}
	if told < 1500 {
		t.Error(told)
	}
	for _, v := range fourWays() {
		if found[v] < 500 {
			t.Error(found)
		}
	}
}

func TestStartsInSmallTexts(t *testing.T) {
	for _, n := range small() {
		eachText("ab\n", 3, func(w []byte) {
			isTold(t, fmt.Sprintf("%s %q", show(n), w), reverse.Starts(n, w, len(w)), starts(n, w, len(w)))
			for _, v := range fourWays() {
				isLeast(t, fmt.Sprintf("%s %q", show(n), w), n, w, len(w), v, least(n, w, len(w), v))
			}
		})
	}
}

func TestWhereThereIsNoPlace(t *testing.T) {
	w := []byte("aaa")
	none := func(n api.Nfa, w []byte, end int) {
		t.Helper()
		isTold(t, fmt.Sprint(show(n), end), reverse.Starts(n, w, end), nil)
		for _, v := range fourWays() {
			isLeast(t, show(n), n, w, end, v, -1)
		}
	}
	for _, n := range []api.Nfa{everything(2), of(t, "a*"), of(t, "a+"), {Null: true}, {}} {
		for _, end := range []int{-1, -2, -3, -64, math.MinInt, math.MinInt + 1, 4, 5, 64, math.MaxInt} {
			none(n, w, end)
		}
		for _, end := range []int{-1, 1, math.MinInt, math.MaxInt} {
			none(n, nil, end)
			none(n, w[:0], end)
		}
		// What the memory of w has behind its end is no place of w.
		none(n, w[:2], 3)
	}
}

func TestStartsAtTheEdges(t *testing.T) {
	w := []byte("aaa")
	isTold(t, "everything, at 0", reverse.Starts(everything(3), w, 0), []int{0})
	isTold(t, "everything, at the end", reverse.Starts(everything(3), w, 3), []int{3, 2, 1, 0})
	isTold(t, "everything, of no bytes", reverse.Starts(everything(3), nil, 0), []int{0})
	one := everything(3)
	one.Null = false
	isTold(t, "not Null, at 0", reverse.Starts(one, w, 0), nil)
	isTold(t, "not Null, at the end", reverse.Starts(one, w, 3), []int{2, 1, 0})
	isTold(t, "not Null, of no bytes", reverse.Starts(one, nil, 0), nil)
	isTold(t, "no positions, Null", reverse.Starts(glushkov.Empty(), w, 1), []int{1})
	isTold(t, "no positions", reverse.Starts(api.Nfa{}, w, 1), nil)
	// A text ends at end alone, though it could end ahead of it, too.
	isTold(t, "a in ab", reverse.Starts(of(t, "a"), []byte("ab"), 2), nil)
	isTold(t, "a behind a newline", reverse.Starts(of(t, "a"), []byte("a\na\na"), 5), []int{4})
	// What stands behind end is not looked at.
	isTold(t, "ab in aba", reverse.Starts(of(t, "ab"), []byte("aba"), 2), []int{0})
}

func TestPlacesOfAutomataThatMayNotBe(t *testing.T) {
	for _, n := range wrong() {
		for _, w := range []string{"", "a", "ab\na"} {
			for end := -1; end <= len(w)+1; end++ {
				isTold(t, show(n), reverse.Starts(n, []byte(w), end), nil)
				for _, v := range fourWays() {
					isLeast(t, show(n), n, []byte(w), end, v, -1)
				}
			}
		}
	}
}

func TestLeastByHand(t *testing.T) {
	for _, x := range []struct {
		pattern, text          string
		anywhere, first, lines int
	}{
		{"a+b", "aab", 0, 0, 0},
		{"a+b", "xaab", 1, -1, -1},
		{"a+b", "\naab", 1, -1, 1},
		{"a+b", "ab\naab", 3, -1, 3},
		{"b", "ab", 1, -1, -1},
		{"b", "a\nb", 2, -1, 2},
		{"[^x]*b", "a\nb\nab", 0, 0, 0},
		{"[^x]*b", "xa\nb\nab", 1, -1, 3},
		{"[^x]*b", "x\na\nb\nab", 1, -1, 2},
		{"[^x]*b", "xa\nb", 1, -1, 3},
		{`\n*b`, "\n\n\nb", 0, 0, 0},
		{`\n*b`, "x\n\n\nb", 1, -1, 2},
		{`\n+`, "\n\n", 0, 0, 0},
		{`\n+`, "x\n\n", 1, -1, 2},
		{"a*", "b", -1, -1, -1},
		{"a*", "", -1, -1, -1},
		{"", "a\n", -1, -1, -1},
		{"aa", "aaa", 1, -1, -1},
		{"aa|aaaa", "aaaaa", 1, -1, -1},
		{"aa|aaaa", "aa\nab", -1, -1, -1},
	} {
		n, w := of(t, x.pattern), []byte(x.text)
		what := fmt.Sprintf("%q in %q", x.pattern, x.text)
		isLeast(t, what, n, w, len(w), way{false, false}, x.anywhere)
		isLeast(t, what, n, w, len(w), way{false, true}, x.anywhere)
		isLeast(t, what, n, w, len(w), way{true, false}, x.first)
		isLeast(t, what, n, w, len(w), way{true, true}, x.lines)
	}
}

// The place end itself counts for nothing, though a beginning stands there.
func TestLeastNeverIsTheEnd(t *testing.T) {
	null := blank(3)
	null.Null = true
	for _, n := range []api.Nfa{glushkov.Empty(), null, of(t, "x*")} {
		for _, w := range []string{"", "a", "\n", "a\nb\n", "x\n"} {
			for _, v := range fourWays() {
				isLeast(t, show(n), n, []byte(w), len(w), v, -1)
				isLeast(t, show(n), n, []byte(w), 0, v, -1)
			}
		}
	}
	for _, v := range fourWays() {
		isLeast(t, "everything, at 0", everything(2), []byte("ab"), 0, v, -1)
		isLeast(t, "everything, of no bytes", everything(2), nil, 0, v, -1)
		isLeast(t, "everything", everything(2), []byte("b\na"), 3, v, 0)
	}
}

// With hat and multi a text may begin behind a byte 10, and behind no other.
func TestLeastBehindEachByte(t *testing.T) {
	n := of(t, "a")
	for b := range 256 {
		w := []byte{'b', byte(b), 'a'}
		behind := -1
		if b == 10 {
			behind = 2
		}
		isLeast(t, fmt.Sprint(b), n, w, 3, way{true, true}, behind)
		isLeast(t, fmt.Sprint(b), n, w, 3, way{true, false}, -1)
		isLeast(t, fmt.Sprint(b), n, w, 3, way{false, true}, 2)
		isLeast(t, fmt.Sprint(b), n, w, 3, way{false, false}, 2)
	}
}

// The least place of all is no beginning, or is one by its byte of a line: then a later one is the answer, or an earlier one.
func TestLeastWhereALaterOneIs(t *testing.T) {
	n := of(t, "(?:a|\n)+")
	w := []byte("ba\na\naa")
	for _, x := range []struct {
		end, anywhere, lines int
	}{{1, -1, -1}, {2, 1, -1}, {3, 1, -1}, {4, 1, 3}, {5, 1, 3}, {6, 1, 3}, {7, 1, 3}} {
		isLeast(t, "later", n, w, x.end, way{}, x.anywhere)
		isLeast(t, "later", n, w, x.end, way{true, false}, -1)
		isLeast(t, "later", n, w, x.end, way{true, true}, x.lines)
	}
	// The byte at the place counts for nothing, but that ahead of it.
	isLeast(t, "a newline itself", of(t, "\na"), []byte("b\na"), 3, way{true, true}, -1)
	isLeast(t, "a newline itself", of(t, "\na"), []byte("\n\na"), 3, way{true, true}, 1)
}

// leftEarly fails unless told goes through want however early it is left, and again, and within itself.
func leftEarly(t *testing.T, what string, told iter.Seq[int], want []int) {
	t.Helper()
	for stop := range want {
		var got []int
		for i := range told {
			got = append(got, i)
			if len(got) == stop+1 {
				break
			}
		}
		if !slices.Equal(got, want[:stop+1]) {
			t.Fatalf("%s: %v, not %v", what, got, want[:stop+1])
		}
	}
	k := 0
	for i := range told {
		if i != want[k] {
			t.Fatalf("%s: %d, not %d", what, i, want[k])
		}
		k++
		isTold(t, what+" within itself", told, want)
	}
	if k != len(want) {
		t.Fatalf("%s: %d of them", what, k)
	}
}

func TestStartsLeftEarly(t *testing.T) {
	w := []byte("aab\naabaa\n\na")
	for _, n := range []api.Nfa{everything(2), of(t, "a*"), of(t, "a*b|aab\n"), of(t, "(?:a|b|\n)*a"), {Null: true}} {
		for end := range len(w) + 1 {
			leftEarly(t, "Starts", reverse.Starts(n, w, end), starts(n, w, end))
		}
	}
}

// Left early, nothing is told any more: behind the end itself, too.
func TestNothingIsToldBehindALeave(t *testing.T) {
	for stop := 1; stop < 5; stop++ {
		many := 0
		reverse.Starts(everything(2), []byte("aaaa"), 4)(func(int) bool {
			many++
			return many < stop
		})
		if many != stop {
			t.Errorf("left at %d: %d of them", stop, many)
		}
	}
}

func TestPlacesOfManyBytes(t *testing.T) {
	w := slices.Repeat([]byte("ab\n"), 1<<17)
	n := of(t, "(?:ab\n)*")
	at := len(w)
	for i := range reverse.Starts(n, w, len(w)) {
		if i != at {
			t.Fatal(i, at)
		}
		at -= 3
	}
	if at != -3 {
		t.Error(at)
	}
	for _, v := range fourWays() {
		isLeast(t, "all", n, w, len(w), v, 0)
	}
	isLeast(t, "the first line but one", of(t, "(?:\n?ab)*\n"), w[1:], len(w)-1, way{true, true}, 2)
	isLeast(t, "the first line", of(t, "(?:\n?ab)*\n"), w[1:], len(w)-1, way{}, 1)
	// As many positions as there may be, all of them alive.
	isTold(t, "the last ones", reverse.Starts(of(t, "[^x]{512}"), w[:1<<11], 1<<10), []int{512})
	if got := slices.Collect(reverse.Starts(of(t, "[^x]{300,512}"), w, len(w)-5)); len(got) != 213 || got[0] != len(w)-305 || got[212] != len(w)-517 {
		t.Error(len(got))
	}
}

// P12.6

// Read backwards by hand: from where the state is empty on none is told.
func TestNoneIsToldOnceTheStateIsEmpty(t *testing.T) {
	r := chance(22)
	emptied := 0
	for _, n := range append(small(), automata()...) {
		for range 6 {
			w := r.text(14)
			var want []int
			if n.Null {
				want = append(want, len(w))
			}
			s := put(len(n.Classes))
			for i, b := range slices.Backward(w) {
				s = reverse.Back(n, s, i == len(w)-1, b)
				if len(numbers(s)) == 0 {
					emptied++
					break
				}
				if meet(s, n.First) {
					want = append(want, i)
				}
			}
			isTold(t, fmt.Sprintf("%s %q", show(n), w), reverse.Starts(n, w, len(w)), want)
		}
	}
	if emptied < 100 {
		t.Error(emptied)
	}
}

// Bytes that would be taken stand ahead of one that is not.
func TestNoneIsToldAheadOfAGap(t *testing.T) {
	isTold(t, "a*", reverse.Starts(of(t, "a*"), []byte("aabaa"), 5), []int{5, 4, 3})
	isTold(t, "a+b", reverse.Starts(of(t, "a+b"), []byte("abcab"), 5), []int{3})
	isTold(t, "a+b", reverse.Starts(of(t, "a+b"), []byte("aaac"), 4), nil)
	isLeast(t, "a+b", of(t, "a+b"), []byte("abcab"), 5, way{}, 3)
	isLeast(t, "a+b", of(t, "a+b"), []byte("ab\ncab"), 6, way{true, true}, -1)
}

// No more steps are gone than are needed: else these would not come to an end in a day.
func TestAsManyStepsAsNeeded(t *testing.T) {
	w := slices.Concat(slices.Repeat([]byte("a"), 1<<23), []byte("baab"))
	n, many := of(t, "a{1,3}b"), [4]int{}
	for range 20000 {
		for k, v := range fourWays() {
			if i, is := reverse.Least(n, w, len(w), v.hat, v.multi); is && i == 1<<23+1 {
				many[k]++
			}
		}
	}
	if many != [4]int{20000, 20000, 0, 0} {
		t.Error(many)
	}
	told := reverse.Starts(n, w, len(w))
	for range 40000 {
		isTold(t, "a{1,3}b", told, []int{1<<23 + 2, 1<<23 + 1})
	}
}
