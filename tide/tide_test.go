package tide_test

import (
	"fmt"
	"math"
	"slices"
	"testing"

	"riddle/api"
	"riddle/tide"
)

// P14.1

func TestCheck(t *testing.T) {
	for _, x := range []struct {
		least int
		may   bool
	}{
		{math.MinInt, false},
		{-1000, false},
		{-2, false},
		{-1, false},
		{0, true},
		{1, true},
		{2, true},
		{999, true},
		{1000, true},
		{1001, false},
		{1002, false},
		{math.MaxInt, false},
	} {
		want := api.ErrArg
		if x.may {
			want = api.OK
		}
		for _, c := range []api.Class{raw('a'), raw(0), raw(63), raw(64), raw(191), raw(255), raw(0, 255), full} {
			if e := tide.Check(api.Tide{Class: c, Least: x.least}); e != want {
				t.Errorf("%x, %d: %d", c, x.least, e)
			}
		}
		if e := tide.Check(api.Tide{Least: x.least}); e != api.ErrArg {
			t.Errorf("no bytes, %d: %d", x.least, e)
		}
	}
	if api.ErrArg != 1 || api.MaxRepeat != 1000 {
		t.Error(api.ErrArg, api.MaxRepeat)
	}
}

func TestCheckOfAll(t *testing.T) {
	for n := range 256 {
		if e := tide.Check(api.Tide{Class: raw(byte(n))}); e != api.OK {
			t.Errorf("the byte %d: %d", n, e)
		}
	}
	for least := -3; least <= 1003; least++ {
		if x := of("a", least); (tide.Check(x) == api.OK) != may(x) {
			t.Errorf("%d: %d", least, tide.Check(x))
		}
	}
	for _, x := range tides() {
		if e := tide.Check(x); e != api.OK {
			t.Errorf("%s: %d", show(x), e)
		}
	}
	for _, x := range wrong() {
		if e := tide.Check(x); e != api.ErrArg {
			t.Errorf("%s: %d", show(x), e)
		}
	}
}

func TestCheckState(t *testing.T) {
	for _, x := range tides() {
		for age := -1; age <= x.Least; age++ {
			if e := tide.CheckState(x, old(age)); e != api.OK {
				t.Fatalf("%s %d: %d", show(x), age, e)
			}
		}
		for _, s := range wrongStates(x.Least) {
			if e := tide.CheckState(x, s); e != api.ErrArg {
				t.Errorf("%s %d: %d", show(x), s.Age, e)
			}
		}
	}
}

// Of a tide that Check refuses no state may be, not even those of the one that it is taken as.
func TestCheckStateOfTidesThatMayNotBe(t *testing.T) {
	for _, x := range wrong() {
		for _, age := range []int{math.MinInt, -2, -1, 0, 1, 2, x.Least - 1, x.Least, x.Least + 1, 1000, math.MaxInt} {
			if e := tide.CheckState(x, old(age)); e != api.ErrArg {
				t.Errorf("%s %d: %d", show(x), age, e)
			}
		}
	}
}

func TestNew(t *testing.T) {
	if s := tide.New(); s != old(-1) {
		t.Error(s)
	}
}

func TestTrigger(t *testing.T) {
	for _, x := range tides() {
		if s := tide.Trigger(x, tide.New()); s != old(0) {
			t.Errorf("%s of New: %v", show(x), s)
		}
		for age := range x.Least + 1 {
			if s := tide.Trigger(x, old(age)); s != old(age) {
				t.Fatalf("%s %d: %v", show(x), age, s)
			}
		}
	}
}

func TestStepByHand(t *testing.T) {
	for _, x := range []struct {
		letters    string
		least, age int
		b          byte
		want       int
	}{
		{"a", 3, -1, 'a', -1},
		{"a", 3, -1, 'b', -1},
		{"a", 3, 0, 'a', 1},
		{"a", 3, 1, 'a', 2},
		{"a", 3, 2, 'a', 3},
		{"a", 3, 3, 'a', 3},
		{"a", 3, 0, 'b', -1},
		{"a", 3, 2, 'b', -1},
		{"a", 3, 3, 'b', -1},
		{"a", 3, 3, 'A', -1},
		{"a", 0, -1, 'a', -1},
		{"a", 0, 0, 'a', 0},
		{"a", 0, 0, 'b', -1},
		{"a", 1, 0, 'a', 1},
		{"a", 1, 1, 'a', 1},
		{"\x00", 2, 0, 0, 1},
		{"\x00", 2, 0, 255, -1},
		{"\xff", 2, 1, 255, 2},
		{"\xff", 2, 1, 0, -1},
		{"\x00\xff", 2, 2, 0, 2},
		{"\x00\xff", 2, 2, 255, 2},
		{"\x00\xff", 2, 2, 1, -1},
		{"\x00\xff", 2, 2, 254, -1},
		{"a", 1000, 998, 'a', 999},
		{"a", 1000, 999, 'a', 1000},
		{"a", 1000, 1000, 'a', 1000},
		{"a", 1000, 1000, 'b', -1},
	} {
		if s := tide.Step(of(x.letters, x.least), old(x.age), x.b); s != old(x.want) {
			t.Errorf("[%q]{%d,} %d by %d: %v, not %d", x.letters, x.least, x.age, x.b, s, x.want)
		}
	}
}

func TestStep(t *testing.T) {
	for _, x := range tides() {
		for age := -1; age <= x.Least; age++ {
			for _, b := range []byte{'a', 'b', 0, 1, 63, 64, 127, 128, 254, 255} {
				if s := tide.Step(x, old(age), b); s != step(x, old(age), b) {
					t.Fatalf("%s %d by %d: %v", show(x), age, b, s)
				}
			}
		}
	}
}

// Each byte is held against the class, and against no other byte.
func TestStepByEachByte(t *testing.T) {
	for in := range 256 {
		x := api.Tide{Class: raw(byte(in)), Least: 2}
		for b := range 256 {
			want := old(-1)
			if b == in {
				want = old(1)
			}
			if s := tide.Step(x, old(0), byte(b)); s != want {
				t.Fatalf("of %d by %d: %v", in, b, s)
			}
		}
	}
}

func TestReady(t *testing.T) {
	for _, x := range tides() {
		for age := -1; age < x.Least; age++ {
			if tide.Ready(x, old(age)) {
				t.Fatalf("%s %d: ready", show(x), age)
			}
		}
		if !tide.Ready(x, old(x.Least)) {
			t.Errorf("%s %d: not ready", show(x), x.Least)
		}
	}
	nought := of("a", 0)
	if tide.Ready(nought, tide.New()) || !tide.Ready(nought, tide.Trigger(nought, tide.New())) {
		t.Error("Least 0")
	}
}

// A tide that Check refuses is one of all bytes, Least 0: whatever byte comes, it is ready from the trigger on.
func TestTidesThatMayNotBe(t *testing.T) {
	for _, x := range wrong() {
		if s := tide.Trigger(x, old(-1)); s != old(0) {
			t.Errorf("%s: Trigger of -1: %v", show(x), s)
		}
		if s := tide.Trigger(x, old(0)); s != old(0) {
			t.Errorf("%s: Trigger of 0: %v", show(x), s)
		}
		if tide.Ready(x, old(-1)) || !tide.Ready(x, old(0)) {
			t.Errorf("%s: Ready", show(x))
		}
		for b := range 256 {
			if s := tide.Step(x, old(-1), byte(b)); s != old(-1) {
				t.Fatalf("%s: -1 by %d: %v", show(x), b, s)
			}
			if s := tide.Step(x, old(0), byte(b)); s != old(0) {
				t.Fatalf("%s: 0 by %d: %v", show(x), b, s)
			}
		}
		s, l := tide.Run(x, tide.New(), []byte("a\x00\xffb"), 2)
		isRun(t, show(x), s, l, old(0), []int{2, 3, 4})
		s, l = tide.Run(x, old(0), []byte("a\x00"))
		isRun(t, show(x)+" from 0", s, l, old(0), []int{0, 1, 2})
		// And the ages that its Least would let be are none of it.
		isNoState(t, x, old(1))
		isNoState(t, x, old(max(x.Least, 1)))
		for _, s := range wrongStates(0) {
			isNoState(t, x, s)
		}
	}
}

// isNoState fails unless each call takes s as New.
func isNoState(t *testing.T, x api.Tide, s api.TideState) {
	t.Helper()
	what := fmt.Sprintf("%s, age %d", show(x), s.Age)
	if got := tide.Trigger(x, s); got != old(0) {
		t.Errorf("%s: Trigger: %v", what, got)
	}
	for _, b := range []byte{'a', 'b', 0, 255} {
		if got := tide.Step(x, s, b); got != old(-1) {
			t.Errorf("%s by %d: %v", what, b, got)
		}
	}
	if tide.Ready(x, s) {
		t.Errorf("%s: ready", what)
	}
	for _, w := range []string{"", "a", "\x00", "aaaa"} {
		got, l := tide.Run(x, s, []byte(w))
		isRun(t, what+" without triggers", got, l, old(-1), nil)
		got, l = tide.Run(x, s, []byte(w), 0)
		want, places := run(x, old(-1), []byte(w), []int{0})
		isRun(t, what, got, l, want, places)
	}
}

func TestStatesThatMayNotBe(t *testing.T) {
	for _, x := range tides() {
		for _, s := range wrongStates(x.Least) {
			isNoState(t, x, s)
		}
	}
}

// All calls, step by step, against the chapter's words.
func TestStepsOfNoOrder(t *testing.T) {
	c := chance(12)
	var met []int
	for range 300 {
		x := c.tide(6)
		s := tide.New()
		for range 40 {
			was := s
			if c.below(4) == 0 {
				s = tide.Trigger(x, was)
				if s != trigger(x, was) {
					t.Fatalf("%s %v: Trigger %v", show(x), was, s)
				}
			}
			b := "aaaaaab\x00\xff"[c.below(9)]
			was, s = s, tide.Step(x, s, b)
			if s != step(x, was, b) || tide.Ready(x, s) != ready(x, s) || tide.CheckState(x, s) != api.OK {
				t.Fatalf("%s %v by %d: %v", show(x), was, b, s)
			}
			met = append(met, s.Age)
		}
	}
	slices.Sort(met)
	if met = slices.Compact(met); !slices.Equal(met, []int{-1, 0, 1, 2, 3, 4, 5, 6}) {
		t.Error(met)
	}
}
