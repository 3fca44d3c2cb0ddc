package tide_test

import (
	"fmt"
	"math"
	"slices"
	"testing"

	"riddle/api"
	"riddle/tide"
)

// P14.2

func TestExample(t *testing.T) {
	s, l := tide.Run(of("a", 2), tide.New(), []byte("xaaab"), 1)
	isRun(t, "a{2,}", s, l, old(-1), []int{3, 4})
}

func TestRunByHand(t *testing.T) {
	for _, x := range []struct {
		letters    string
		least, age int
		text       string
		triggers   []int
		want       int
		places     []int
	}{
		{"a", 2, -1, "aaaa", []int{0}, 2, []int{2, 3, 4}},
		{"a", 2, -1, "aaaa", []int{2}, 2, []int{4}},
		{"a", 2, -1, "aaaa", []int{3}, 1, nil},
		{"a", 2, -1, "aaaa", []int{4}, 0, nil},
		// Of several triggers the oldest one counts, in whatever order they come.
		{"a", 2, -1, "aaaa", []int{0, 1, 3}, 2, []int{2, 3, 4}},
		{"a", 2, -1, "aaaa", []int{3, 1, 0}, 2, []int{2, 3, 4}},
		{"a", 2, -1, "aaaa", []int{3, 1, 3, 1, 1}, 2, []int{3, 4}},
		{"a", 3, -1, "aaaaaa", []int{1, 2, 3, 4, 5, 6}, 3, []int{4, 5, 6}},
		// A byte that is not in the class ends what is behind triggers ahead of it, not one that comes just behind it.
		{"a", 2, -1, "aabaaa", []int{0}, -1, []int{2}},
		{"a", 2, -1, "aabaaa", []int{0, 2}, -1, []int{2}},
		{"a", 2, -1, "aabaaa", []int{0, 3}, 2, []int{2, 5, 6}},
		{"a", 2, -1, "aabaaa", []int{0, 5}, 1, []int{2}},
		{"a", 0, -1, "aabaa", []int{2}, -1, []int{2}},
		{"a", 0, -1, "aabaa", []int{1, 4}, 0, []int{1, 2, 4, 5}},
		{"a", 0, -1, "bbb", []int{0, 1, 2, 3}, 0, []int{0, 1, 2, 3}},
		{"a", 0, -1, "bbb", []int{1}, -1, []int{1}},
		{"a", 1, -1, "bbb", []int{0, 1, 2, 3}, 0, nil},
		{"ab", 1, -1, "axbab", []int{0, 1, 3}, 1, []int{1, 4, 5}},
		{"\x00\xff", 2, -1, "\x00\xff\x00", []int{0}, 2, []int{2, 3}},
		{"\x00", 1, -1, "\x00\xff", []int{0, 1}, -1, []int{1}},
		{"\xff", 1, -1, "\x00\xff", []int{0, 1}, 1, []int{2}},
		// From a state that has a trigger already.
		{"a", 2, 0, "aaa", nil, 2, []int{2, 3}},
		{"a", 2, 1, "aaa", nil, 2, []int{1, 2, 3}},
		{"a", 2, 2, "aaa", nil, 2, []int{0, 1, 2, 3}},
		{"a", 2, 2, "aba", nil, -1, []int{0, 1}},
		{"a", 2, 2, "baa", []int{0, 1}, 2, []int{0, 3}},
		{"a", 2, 1, "aaa", []int{0, 2}, 2, []int{1, 2, 3}},
		{"a", 2, 2, "", nil, 2, []int{0}},
		{"a", 2, 1, "", nil, 1, nil},
		{"a", 2, 1, "", []int{0}, 1, nil},
		{"a", 0, 0, "ab", nil, -1, []int{0, 1}},
		{"a", 0, 0, "b", []int{1}, 0, []int{0, 1}},
	} {
		what := fmt.Sprintf("[%q]{%d,} from %d, %q, %v", x.letters, x.least, x.age, x.text, x.triggers)
		s, l := tide.Run(of(x.letters, x.least), old(x.age), []byte(x.text), x.triggers...)
		isRun(t, what, s, l, old(x.want), x.places)
	}
}

func TestRunWithoutTriggers(t *testing.T) {
	for _, x := range append(tides(), wrong()...) {
		for _, w := range []string{"", "a", "aaaa", "\x00\xff"} {
			s, l := tide.Run(x, tide.New(), []byte(w))
			isRun(t, show(x), s, l, old(-1), nil)
			s, l = tide.Run(x, tide.New(), []byte(w), []int{}...)
			isRun(t, show(x), s, l, old(-1), nil)
		}
	}
}

// Triggers where there is no place count for nothing, alone and among others.
func TestRunOfTriggersElsewhere(t *testing.T) {
	elsewhere := []int{-1, -2, -64, -1000, math.MinInt, math.MinInt + 1, 4, 5, 6, 67, 1003, math.MaxInt, math.MaxInt - 1}
	for _, x := range []api.Tide{of("a", 0), of("a", 1), of("a", 3), {Class: full}, {}} {
		w := []byte("aaa")
		s, l := tide.Run(x, tide.New(), w, elsewhere...)
		isRun(t, show(x), s, l, old(-1), nil)
		for _, i := range elsewhere {
			s, l := tide.Run(x, tide.New(), w, i)
			isRun(t, fmt.Sprint(show(x), i), s, l, old(-1), nil)
			s, l = tide.Run(x, tide.New(), w, i, 2, i, 1)
			want, places := run(x, old(-1), w, []int{1, 2})
			isRun(t, fmt.Sprint(show(x), i), s, l, want, places)
		}
	}
}

func TestRunAtTheLastPlace(t *testing.T) {
	w := []byte("aaa")
	s, l := tide.Run(of("a", 0), tide.New(), w, 3)
	isRun(t, "Least 0", s, l, old(0), []int{3})
	s, l = tide.Run(of("a", 1), tide.New(), w, 3)
	isRun(t, "Least 1", s, l, old(0), nil)
	s, l = tide.Run(of("a", 1), tide.New(), w, 2)
	isRun(t, "one ahead", s, l, old(1), []int{3})
	s, l = tide.Run(of("a", 3), tide.New(), w, 0)
	isRun(t, "all", s, l, old(3), []int{3})
	s, l = tide.Run(of("a", 4), tide.New(), w, 0)
	isRun(t, "one more than all", s, l, old(3), nil)
	s, l = tide.Run(of("a", 1000), tide.New(), w, 0, 1, 2, 3)
	isRun(t, "Least 1000", s, l, old(3), nil)
	// What w has behind its end is not looked at.
	s, l = tide.Run(of("a", 1), tide.New(), w[:2], 0, 3)
	isRun(t, "a part", s, l, old(1), []int{1, 2})
}

func TestRunOfNoBytes(t *testing.T) {
	for _, w := range [][]byte{nil, {}} {
		for _, x := range tides() {
			for age := -1; age <= x.Least; age++ {
				var ready []int
				if age == x.Least {
					ready = []int{0}
				}
				s, l := tide.Run(x, old(age), w, 1, -1)
				isRun(t, show(x), s, l, old(age), ready)
				if x.Least == 0 {
					ready = []int{0}
				}
				s, l = tide.Run(x, old(age), w, 0, 0)
				isRun(t, show(x)+" with a trigger", s, l, old(max(age, 0)), ready)
			}
		}
	}
}

func TestRunFromEachAge(t *testing.T) {
	for _, x := range tides() {
		for _, age := range []int{-1, 0, 1, x.Least / 2, x.Least - 1, x.Least} {
			for _, w := range []string{"a", "aaaaa", "aab", "baa", "\x00\xff"} {
				for _, triggers := range [][]int{nil, {0}, {2}, {1, 3}} {
					what := fmt.Sprintf("%s from %d, %q, %v", show(x), age, w, triggers)
					s, l := tide.Run(x, old(age), []byte(w), triggers...)
					want, places := run(x, old(age), []byte(w), triggers)
					isRun(t, what, s, l, want, places)
				}
			}
		}
	}
}

// Each text, each choice of triggers, each state of each tide of few.
func TestRunOfAllThatIsSmall(t *testing.T) {
	told := 0
	for least := range 4 {
		x := of("a", least)
		for age := -1; age <= least; age++ {
			eachText("ab", 5, func(w []byte) {
				eachChoice(len(w), func(triggers []int) {
					s, l := tide.Run(x, old(age), w, triggers...)
					want, places := run(x, old(age), w, triggers)
					isRun(t, fmt.Sprintf("%s from %d, %q, %v", show(x), age, w, triggers), s, l, want, places)
					told += len(places)
				})
			})
		}
	}
	if told < 50000 {
		t.Error(told)
	}
}

func TestRun(t *testing.T) {
	told := 0
	many(func(x api.Tide, s api.TideState, w []byte, triggers []int) {
		got, l := tide.Run(x, s, w, triggers...)
		want, places := run(x, s, w, triggers)
		isRun(t, fmt.Sprintf("%s from %v, %q, %v", show(x), s, w, triggers), got, l, want, places)
		told += len(places)
	})
	if told < 10000 {
		t.Error(told)
	}
}

// Run is what comes step by step by the package's other calls.
func TestRunByTheOtherCalls(t *testing.T) {
	many(func(x api.Tide, from api.TideState, w []byte, triggers []int) {
		// A state that may not be comes to New by the first Step or Trigger, but is none of what Run answers.
		if ageOf(x, from) != from.Age {
			from = tide.New()
		}
		s := from
		var places []int
		for j := range len(w) + 1 {
			if slices.Contains(triggers, j) {
				s = tide.Trigger(x, s)
			}
			if tide.Ready(x, s) {
				places = append(places, j)
			}
			if j < len(w) {
				s = tide.Step(x, s, w[j])
			}
		}
		got, l := tide.Run(x, from, w, triggers...)
		isRun(t, fmt.Sprintf("%s from %v, %q, %v", show(x), from, w, triggers), got, l, s, places)
	})
}

// As many bytes and triggers as that cost a step each, however great the tide is.
func TestRunOfManyBytes(t *testing.T) {
	const length = 1 << 20
	w := slices.Repeat([]byte("a"), length)
	triggers := upTo(length + 1)
	slices.Reverse(triggers)
	for _, least := range []int{0, 1, 1000} {
		s, l := tide.Run(of("a", least), tide.New(), w, triggers...)
		if s != old(least) || len(l) != length+1-least || l[0] != least || !slices.IsSorted(l) {
			t.Errorf("%d: %v, %d places", least, s, len(l))
		}
	}
	// One trigger, told over and over, is one.
	s, l := tide.Run(of("a", 1000), tide.New(), w, slices.Repeat([]int{length - 1001}, length)...)
	isRun(t, "one place", s, l, old(1000), []int{length - 1, length})
}
