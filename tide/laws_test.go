package tide_test

import (
	"fmt"
	"regexp"
	"slices"
	"testing"

	"riddle/api"
	"riddle/glushkov"
	"riddle/meaning"
	"riddle/nfa"
	"riddle/normal"
	"riddle/tide"
)

// P14.4

func TestItIsTheRepeat(t *testing.T) {
	told := 0
	held := func(x api.Tide, w []byte, triggers []int) {
		t.Helper()
		want := repeats(x, w, triggers)
		if _, l := tide.Run(x, tide.New(), w, triggers...); !slices.Equal(l, want) {
			t.Fatalf("%s, %q, %v: %v, not %v", show(x), w, triggers, l, want)
		}
		told += len(want)
	}
	many(func(x api.Tide, _ api.TideState, w []byte, triggers []int) { held(x, w, triggers) })
	for least := range 4 {
		eachText("ab", 5, func(w []byte) {
			eachChoice(len(w), func(triggers []int) { held(of("a", least), w, triggers) })
		})
	}
	c := chance(31)
	for range 12 {
		w := c.text(4000, 2500)
		held(of("a", c.below(1001)), w, c.triggers(5, len(w)))
	}
	if told < 30000 {
		t.Error(told)
	}
}

// It is what Tree means.
func TestItIsWhatTreeMeans(t *testing.T) {
	c := chance(32)
	told := 0
	for range 1500 {
		x, w := c.tide(7), c.text(14, 8)
		triggers := c.triggers(4, len(w))
		y, _ := tide.Tree(x)
		spans := meaning.Spans(y, false, w)
		var want []int
		for j := range len(w) + 1 {
			if slices.ContainsFunc(triggers, func(i int) bool { return i >= 0 && i <= j && spans[i][j] }) {
				want = append(want, j)
			}
		}
		if _, l := tide.Run(x, tide.New(), w, triggers...); !slices.Equal(l, want) {
			t.Fatalf("%s, %q, %v: %v, not %v", show(x), w, triggers, l, want)
		}
		told += len(want)
	}
	if told < 1500 {
		t.Error(told)
	}
}

// It is what the automaton of Tree takes, though that has a position for each time.
func TestItIsWhatTreesAutomatonTakes(t *testing.T) {
	c := chance(33)
	told := 0
	for range 300 {
		x, w := c.tide(100), c.text(300, 200)
		triggers := c.triggers(4, len(w))
		y, _ := tide.Tree(x)
		flat, e := normal.Unroll(y)
		if e != api.OK {
			t.Fatal(show(x), e)
		}
		n, e := glushkov.Of(flat)
		if e != api.OK {
			t.Fatal(show(x), e)
		}
		var want []int
		for _, i := range triggers {
			want = slices.AppendSeq(want, nfa.Ends(n, w, i))
		}
		slices.Sort(want)
		want = slices.Compact(want)
		if _, l := tide.Run(x, tide.New(), w, triggers...); !slices.Equal(l, want) {
			t.Fatalf("%s, %q, %v: %v, not %v", show(x), w, triggers, l, want)
		}
		told += len(want)
	}
	if told < 3000 {
		t.Error(told)
	}
}

// One trigger at a time is the library's repeat from there on.
func TestItIsTheLibrarysRepeat(t *testing.T) {
	c := chance(34)
	for range 30 {
		x := of("ac", c.below(20))
		re := regexp.MustCompile(fmt.Sprintf("^[ac]{%d,}$", x.Least))
		w := make([]byte, 50)
		for i := range w {
			w[i] = "aaaaaaaaaaaaacccccccccccccb"[c.below(27)]
		}
		for i := range len(w) + 1 {
			var want []int
			for j := i; j <= len(w); j++ {
				if re.Match(w[i:j]) {
					want = append(want, j)
				}
			}
			if _, l := tide.Run(x, tide.New(), w, i); !slices.Equal(l, want) {
				t.Fatalf("%s, %q, %d: %v, not %v", show(x), w, i, l, want)
			}
		}
	}
}

// What is told of triggers together is what is told of each of them.
func TestTriggersTogether(t *testing.T) {
	many(func(x api.Tide, _ api.TideState, w []byte, triggers []int) {
		var want []int
		for _, i := range triggers {
			_, l := tide.Run(x, tide.New(), w, i)
			want = append(want, l...)
		}
		slices.Sort(want)
		want = slices.Compact(want)
		if _, l := tide.Run(x, tide.New(), w, triggers...); !slices.Equal(l, want) {
			t.Fatalf("%s, %q, %v: %v, not %v", show(x), w, triggers, l, want)
		}
	})
}

// P14.5

// parted runs over w up to cut, and then over the rest; a trigger at the border goes to the first part, to the second one, or to both.
func parted(x api.Tide, s api.TideState, w []byte, triggers []int, cut int, first, second bool) (api.TideState, []int) {
	var ahead, behind []int
	for _, i := range triggers {
		if i < cut || i == cut && first {
			ahead = append(ahead, i)
		}
		if i > cut || i == cut && second {
			behind = append(behind, i-cut)
		}
	}
	s, places := tide.Run(x, s, w[:cut], ahead...)
	s, more := tide.Run(x, s, w[cut:], behind...)
	for _, j := range more {
		places = append(places, j+cut)
	}
	// The border is a place of both parts.
	slices.Sort(places)
	return s, slices.Compact(places)
}

func TestParted(t *testing.T) {
	told := 0
	held := func(x api.Tide, s api.TideState, w []byte, triggers []int, cut int) {
		t.Helper()
		want, places := tide.Run(x, s, w, triggers...)
		for _, border := range []struct{ first, second bool }{{true, false}, {false, true}, {true, true}} {
			got, l := parted(x, s, w, triggers, cut, border.first, border.second)
			isRun(t, fmt.Sprintf("%s from %v, %q cut at %d, %v, %v", show(x), s, w, cut, triggers, border), got, l, want, places)
		}
		told += len(places)
	}
	for least := range 4 {
		for age := -1; age <= least; age++ {
			eachText("ab", 4, func(w []byte) {
				eachChoice(len(w), func(triggers []int) {
					for cut := range len(w) + 1 {
						held(of("a", least), old(age), w, triggers, cut)
					}
				})
			})
		}
	}
	c := chance(35)
	many(func(x api.Tide, s api.TideState, w []byte, triggers []int) {
		held(x, s, w, triggers, c.below(len(w)+1))
	})
	if told < 50000 {
		t.Error(told)
	}
}

// Byte by byte, and with nothing in between.
func TestPartedIntoMany(t *testing.T) {
	many(func(x api.Tide, from api.TideState, w []byte, triggers []int) {
		s, places := from, []int(nil)
		for j := range len(w) + 1 {
			var here []int
			if slices.Contains(triggers, j) {
				here = []int{0}
			}
			var l []int
			if s, l = tide.Run(x, s, nil, here...); len(l) > 0 {
				places = append(places, j)
			}
			if j < len(w) {
				s, _ = tide.Run(x, s, w[j:j+1])
			}
		}
		got, l := tide.Run(x, from, w, triggers...)
		isRun(t, fmt.Sprintf("%s from %v, %q, %v", show(x), from, w, triggers), s, places, got, l)
	})
}

// P14.6

// met are the ages of all states that are come to from New by a trigger, a byte of the class, a byte that is not in it, and again; no more of them are looked for than any tide may have.
func met(x api.Tide) []int {
	ages := []int{}
	left := []api.TideState{tide.New()}
	for len(left) > 0 && len(ages) <= api.MaxRepeat+2 {
		s := left[0]
		left = left[1:]
		if slices.Contains(ages, s.Age) {
			continue
		}
		ages = append(ages, s.Age)
		run, _ := tide.Run(x, s, []byte("ab"), 1)
		left = append(left, tide.Trigger(x, s), tide.Step(x, s, 'a'), tide.Step(x, s, 'b'), run)
	}
	slices.Sort(ages)
	return ages
}

// From -1 to Least, and no other: Least and two more.
func TestSmall(t *testing.T) {
	for _, least := range []int{0, 1, 2, 7, 64, 1000} {
		want := append([]int{-1}, upTo(least+1)...)
		if l := met(of("a", least)); !slices.Equal(l, want) || len(l) != least+2 {
			t.Errorf("%d: %v", least, l)
		}
	}
	for _, x := range wrong() {
		if l := met(x); !slices.Equal(l, []int{-1, 0}) {
			t.Errorf("%s: %v", show(x), l)
		}
	}
}

// What the calls answer is one of these states, whatever they were given.
func TestEachAnswerIsAState(t *testing.T) {
	for _, x := range append(tides(), wrong()...) {
		least := taken(x).Least
		for _, s := range append(wrongStates(least), old(-1), old(0), old(least-1), old(least)) {
			long, _ := tide.Run(x, s, slices.Repeat([]byte("a"), 1100), 3)
			none, _ := tide.Run(x, s, nil)
			for i, got := range []api.TideState{tide.Trigger(x, s), tide.Step(x, s, 'a'), tide.Step(x, s, 'b'), long, none} {
				if got.Age < -1 || got.Age > least {
					t.Errorf("%s of %v, %d: %v", show(x), s, i, got)
				}
			}
		}
	}
}
