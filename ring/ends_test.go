package ring_test

import (
	"fmt"
	"iter"
	"math"
	"slices"
	"testing"

	"riddle/api"
	"riddle/ring"
)

// P13.2

func TestExample(t *testing.T) {
	isTold(t, "a{2,3}", ring.Ends(of("a", 2, 3), []int{0, 1}, []byte("aaab")), []int{2, 3})
}

func TestEndsByHand(t *testing.T) {
	for _, x := range []struct {
		letters     string
		least, most int
		triggers    []int
		text        string
		want        []int
	}{
		{"a", 2, 3, []int{0}, "aaaaa", []int{2, 3}},
		{"a", 2, 3, []int{1}, "aaaaa", []int{3, 4}},
		{"a", 2, 3, []int{0, 3}, "aaaaaaa", []int{2, 3, 5, 6}},
		{"a", 2, 3, []int{3, 0}, "aaaaaaa", []int{2, 3, 5, 6}},
		{"a", 2, 3, []int{3, 0, 3, 0, 0}, "aaaaaaa", []int{2, 3, 5, 6}},
		{"a", 2, 2, []int{0, 1, 2, 3}, "aaabaa", []int{2, 3}},
		{"a", 1, 3, []int{4}, "baba", nil},
		{"a", 1, 3, []int{3}, "baba", []int{4}},
		{"a", 0, 2, []int{4, 1, 9}, "baaaab", []int{1, 2, 3, 4, 5}},
		{"a", 0, 1, []int{0}, "ba", []int{0}},
		{"a", 0, 1, []int{1}, "ba", []int{1, 2}},
		{"a", 0, 1, []int{2}, "ba", []int{2}},
		{"ab", 1, 2, []int{0, 1, 2, 3}, "axbab", []int{1, 3, 4, 5}},
		// A byte that is not in the class ends what is behind triggers ahead of it, not one that comes just behind it.
		{"a", 2, 5, []int{0, 1, 2, 3}, "aabaaaa", []int{2, 5, 6, 7}},
		{"a", 0, 5, []int{3}, "aabaa", []int{3, 4, 5}},
		// A younger trigger goes on where an older one is too old.
		{"a", 3, 4, []int{0, 1, 5}, "aaaaaaaaaa", []int{3, 4, 5, 8, 9}},
		{"a", 3, 3, []int{0, 1, 2}, "aaaaaa", []int{3, 4, 5}},
		// The young one is not old enough while the old one still is.
		{"a", 4, 6, []int{0, 5}, "aaaaaaaaaaaa", []int{4, 5, 6, 9, 10, 11}},
		{"", 0, 3, []int{0, 2}, "aaa", []int{0, 2}},
		{"", 1, 3, []int{0, 2}, "aaa", nil},
		{"\x00\xff", 2, 2, []int{0, 1}, "\x00\xff\x00", []int{2, 3}},
		{"\x00", 1, 1, []int{0, 1}, "\x00\xff", []int{1}},
		{"\xff", 1, 1, []int{0, 1}, "\x00\xff", []int{2}},
	} {
		what := fmt.Sprintf("[%q]{%d,%d} behind %v in %q", x.letters, x.least, x.most, x.triggers, x.text)
		isTold(t, what, ring.Ends(of(x.letters, x.least, x.most), x.triggers, []byte(x.text)), x.want)
	}
}

func TestEndsWithoutTriggers(t *testing.T) {
	for _, r := range append(rings(), wrong()...) {
		for _, w := range []string{"", "a", "aaaa"} {
			isTold(t, show(r), ring.Ends(r, nil, []byte(w)), nil)
			isTold(t, show(r), ring.Ends(r, []int{}, []byte(w)), nil)
		}
	}
}

// Triggers where there is no place count for nothing, alone and among others.
func TestEndsOfTriggersElsewhere(t *testing.T) {
	elsewhere := []int{-1, -2, -64, -1000, math.MinInt, math.MinInt + 1, 4, 5, 6, 67, 1003, math.MaxInt, math.MaxInt - 1}
	for _, r := range []api.Ring{of("a", 0, 1), of("a", 0, 1000), of("a", 1, 1000), of("a", 3, 3), {Class: full, Most: 1000}} {
		w := []byte("aaa")
		isTold(t, show(r), ring.Ends(r, elsewhere, w), nil)
		for _, i := range elsewhere {
			isTold(t, fmt.Sprint(show(r), i), ring.Ends(r, []int{i}, w), nil)
			isTold(t, fmt.Sprint(show(r), i), ring.Ends(r, []int{i, 0, i, 2}, w), repeats(r, []int{0, 2}, w))
		}
	}
}

func TestEndsAtTheLastPlace(t *testing.T) {
	w := []byte("aaa")
	isTold(t, "Least 0", ring.Ends(of("a", 0, 2), []int{3}, w), []int{3})
	isTold(t, "Least 1", ring.Ends(of("a", 1, 2), []int{3}, w), nil)
	isTold(t, "one ahead", ring.Ends(of("a", 1, 2), []int{2}, w), []int{3})
	isTold(t, "all", ring.Ends(of("a", 3, 3), []int{0}, w), []int{3})
	isTold(t, "one more than all", ring.Ends(of("a", 4, 4), []int{0}, w), nil)
	isTold(t, "Least 1000", ring.Ends(of("a", 1000, 1000), []int{0, 1, 2, 3}, w), nil)
	// What w has behind its end is not looked at.
	isTold(t, "a part", ring.Ends(of("a", 1, 3), []int{0, 3}, w[:2]), []int{1, 2})
}

func TestEndsOfNoBytes(t *testing.T) {
	for _, w := range [][]byte{nil, {}} {
		isTold(t, "Least 0", ring.Ends(of("a", 0, 2), []int{0}, w), []int{0})
		isTold(t, "Least 1", ring.Ends(of("a", 1, 2), []int{0}, w), nil)
		isTold(t, "no trigger", ring.Ends(of("a", 0, 2), nil, w), nil)
		isTold(t, "triggers elsewhere", ring.Ends(of("a", 0, 2), []int{1, -1}, w), nil)
		isTold(t, "a ring that may not be", ring.Ends(api.Ring{}, []int{0}, w), []int{0})
	}
}

// With Least 0 each trigger is told itself, whatever the bytes are.
func TestEndsWithLeastNought(t *testing.T) {
	for _, r := range []api.Ring{of("a", 0, 1), of("", 0, 1), of("", 0, 1000)} {
		isTold(t, show(r), ring.Ends(r, []int{5, 0, 3}, []byte("xxxxx")), []int{0, 3, 5})
	}
}

// A ring that Check refuses tells the triggers alone: from 0 to 1 times, but of no byte.
func TestEndsOfRingsThatMayNotBe(t *testing.T) {
	for _, r := range wrong() {
		isTold(t, show(r), ring.Ends(r, []int{3, 1, 9, -1, 3}, []byte("aaaa")), []int{1, 3})
		isTold(t, show(r), ring.Ends(r, []int{4}, []byte("aaaa")), []int{4})
	}
}

// Each text, each choice of triggers, each ring of few.
func TestEndsOfAllThatIsSmall(t *testing.T) {
	told := 0
	for most := 1; most <= 4; most++ {
		for least := range most + 1 {
			r := of("a", least, most)
			eachText("ab", 5, func(w []byte) {
				for choice := range 1 << (len(w) + 1) {
					triggers := numbers(api.Bits{N: len(w) + 1, Words: []uint64{uint64(choice)}})
					want := ends(r, triggers, w)
					isTold(t, fmt.Sprintf("%s %v %q", show(r), triggers, w), ring.Ends(r, triggers, w), want)
					told += len(want)
				}
			})
		}
	}
	if told < 50000 {
		t.Error(told)
	}
}

// manyEnds goes through rings, triggers and texts of no order; rings that may not be are among them.
func manyEnds(f func(r api.Ring, triggers []int, w []byte)) {
	c := chance(21)
	for i := range 4000 {
		most := []int{3, 8, 70, 130}[i%4]
		r, w := c.ring(most), c.text(2*most+3, 3*most)
		if c.below(20) == 0 {
			r.Least, r.Most = -1+c.below(4), -1+c.below(3)
		}
		f(r, c.triggers(6, len(w)), w)
	}
}

func TestEnds(t *testing.T) {
	told := 0
	manyEnds(func(r api.Ring, triggers []int, w []byte) {
		want := ends(r, triggers, w)
		isTold(t, fmt.Sprintf("%s %v %q", show(r), triggers, w), ring.Ends(r, triggers, w), want)
		told += len(want)
	})
	if told < 20000 {
		t.Error(told)
	}
}

// Ends is what comes step by step by the package's other calls.
func TestEndsByTheOtherCalls(t *testing.T) {
	told := 0
	manyEnds(func(r api.Ring, triggers []int, w []byte) {
		var want []int
		s := ring.None(r)
		for j := range len(w) + 1 {
			if j > 0 {
				s = ring.Next(r, s, w[j-1])
			}
			if slices.Contains(triggers, j) {
				s = ring.Trigger(r, s)
			}
			if ring.Accepts(r, s) {
				want = append(want, j)
			}
		}
		isTold(t, fmt.Sprintf("%s %v %q", show(r), triggers, w), ring.Ends(r, triggers, w), want)
		told += len(want)
	})
	if told < 20000 {
		t.Error(told)
	}
}

// As many bytes and triggers as that cost a step each, however great the ring is.
func TestEndsOfManyBytes(t *testing.T) {
	const many = 1 << 21
	w := slices.Repeat([]byte("a"), many)
	triggers := upTo(many + 1)
	slices.Reverse(triggers)
	for _, x := range []struct{ least, most, want int }{{0, 1000, many + 1}, {1000, 1000, many + 1 - 1000}, {1, 1, many}} {
		told := 0
		for range ring.Ends(of("a", x.least, x.most), triggers, w) {
			told++
		}
		if told != x.want {
			t.Errorf("%d to %d: %d", x.least, x.most, told)
		}
	}
	// One trigger, told over and over, is one.
	isTold(t, "one place", ring.Ends(of("a", 999, 1000), slices.Repeat([]int{5}, many), w), []int{1004, 1005})
	isTold(t, "one trigger", ring.Ends(of("a", 1000, 1000), []int{many - 1000}, w), []int{many})
}

// leftEarly fails unless told goes through want however early it is left, and again, and within itself.
func leftEarly(t *testing.T, what string, told iter.Seq[int], want []int) {
	t.Helper()
	for stop := 1; stop <= len(want); stop++ {
		var got []int
		told(func(j int) bool {
			got = append(got, j)
			return len(got) < stop
		})
		if !slices.Equal(got, want[:stop]) {
			t.Fatalf("%s: %v, not %v", what, got, want[:stop])
		}
	}
	for range told {
		isTold(t, what+" within itself", told, want)
	}
	isTold(t, what+" again", told, want)
}

func TestEndsLeftEarly(t *testing.T) {
	w := []byte("aaabaaaaab")
	for _, r := range []api.Ring{of("a", 0, 3), of("a", 2, 3), of("ab", 1, 8), of("", 0, 1), {}} {
		for _, triggers := range [][]int{nil, {0}, {10}, {3, 1, 5}, upTo(11)} {
			leftEarly(t, fmt.Sprint(show(r), triggers), ring.Ends(r, triggers, w), ends(r, triggers, w))
		}
	}
	for range ring.Ends(of("a", 1, 3), []int{0}, w) {
		break
	}
}
