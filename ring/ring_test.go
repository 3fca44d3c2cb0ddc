package ring_test

import (
	"fmt"
	"math"
	"slices"
	"testing"

	"riddle/api"
	"riddle/ring"
)

// P13.1

func TestCheck(t *testing.T) {
	for _, c := range []api.Class{{}, raw('a'), full} {
		for _, x := range []struct {
			least, most int
			want        api.Errno
		}{
			{0, 1, api.OK},
			{1, 1, api.OK},
			{2, 1, api.ErrRing},
			{-1, 1, api.ErrRing},
			{0, 0, api.ErrRing},
			{1, 0, api.ErrRing},
			{-1, 0, api.ErrRing},
			{0, -1, api.ErrRing},
			{-1, -1, api.ErrRing},
			{-2, -1, api.ErrRing},
			{0, 1000, api.OK},
			{1, 1000, api.OK},
			{999, 1000, api.OK},
			{1000, 1000, api.OK},
			{1001, 1000, api.ErrRing},
			{-1, 1000, api.ErrRing},
			{0, 1001, api.ErrRing},
			{1000, 1001, api.ErrRing},
			{1001, 1001, api.ErrRing},
			{math.MinInt, 5, api.ErrRing},
			{math.MaxInt, 5, api.ErrRing},
			{0, math.MaxInt, api.ErrRing},
			{0, math.MinInt, api.ErrRing},
			{math.MinInt, math.MaxInt, api.ErrRing},
			{4, 5, api.OK},
			{5, 5, api.OK},
			{6, 5, api.ErrRing},
		} {
			if e := ring.Check(api.Ring{Class: c, Least: x.least, Most: x.most}); e != x.want {
				t.Errorf("%x, %d to %d: %d", c, x.least, x.most, e)
			}
		}
	}
	if api.ErrRing != 130 || api.MaxRepeat != 1000 {
		t.Error(api.ErrRing, api.MaxRepeat)
	}
}

func TestCheckOfEachPair(t *testing.T) {
	for most := -3; most <= 1003; most++ {
		for _, least := range []int{-2, -1, 0, 1, most - 1, most, most + 1, 1000, 1001} {
			r := api.Ring{Least: least, Most: most}
			if (ring.Check(r) == api.OK) != may(r) {
				t.Errorf("%d to %d: %d", least, most, ring.Check(r))
			}
		}
	}
	for _, r := range rings() {
		if e := ring.Check(r); e != api.OK {
			t.Errorf("%s: %d", show(r), e)
		}
	}
	for _, r := range wrong() {
		if e := ring.Check(r); e != api.ErrRing {
			t.Errorf("%s: %d", show(r), e)
		}
	}
}

func TestNone(t *testing.T) {
	for _, r := range rings() {
		isState(t, show(r), ring.None(r), put(r.Most+1))
	}
	if n := ring.None(of("a", 0, 1)).N; n != 2 {
		t.Error(n)
	}
	if n := ring.None(of("a", 0, 1000)).N; n != 1001 {
		t.Error(n)
	}
}

func TestTrigger(t *testing.T) {
	for _, r := range rings() {
		for _, s := range statesOf(r.Most + 1) {
			want := put(r.Most+1, append(numbers(s), 0)...)
			isState(t, show(r), ring.Trigger(r, s), want)
			// Where the age 0 is already, it is there once.
			isState(t, show(r)+" again", ring.Trigger(r, ring.Trigger(r, s)), want)
		}
		isState(t, show(r)+" of None", ring.Trigger(r, ring.None(r)), put(r.Most+1, 0))
	}
}

func TestNextByHand(t *testing.T) {
	r := of("a\x00\xff", 1, 70)
	for _, x := range []struct {
		ages []int
		b    byte
		want []int
	}{
		{nil, 'a', nil},
		{nil, 'b', nil},
		{[]int{0}, 'a', []int{1}},
		{[]int{0}, 0, []int{1}},
		{[]int{0}, 255, []int{1}},
		{[]int{0}, 1, nil},
		{[]int{0}, 254, nil},
		{[]int{0}, 'b', nil},
		{[]int{0}, 'A', nil},
		{[]int{63}, 'a', []int{64}},
		{[]int{62, 63, 64}, 'a', []int{63, 64, 65}},
		{[]int{69}, 'a', []int{70}},
		{[]int{70}, 'a', nil},
		{[]int{0, 5, 69, 70}, 'a', []int{1, 6, 70}},
		{[]int{0, 5, 69, 70}, '\n', nil},
	} {
		isState(t, fmt.Sprintf("%v by %d", x.ages, x.b), ring.Next(r, put(71, x.ages...), x.b), put(71, x.want...))
	}
	// With as many words as whole: the age behind the last bit of a word is gone, and is no bit of another one.
	isState(t, "the age 63 of 63", ring.Next(of("a", 0, 63), put(64, 62, 63), 'a'), put(64, 63))
	isState(t, "the age 64 of 64", ring.Next(of("a", 0, 64), put(65, 63, 64), 'a'), put(65, 64))
	isState(t, "the age 127 of 127", ring.Next(of("a", 0, 127), put(128, 63, 127), 'a'), put(128, 64))
	isState(t, "the age 1000 of 1000", ring.Next(of("a", 0, 1000), put(1001, 959, 999, 1000), 'a'), put(1001, 960, 1000))
	isState(t, "the age 1 of 1", ring.Next(of("a", 0, 1), put(2, 0, 1), 'a'), put(2, 1))
}

func TestNext(t *testing.T) {
	for _, r := range rings() {
		for _, s := range statesOf(r.Most + 1) {
			for _, b := range []byte{'a', 'b', 0, 1, 63, 64, 127, 128, 254, 255} {
				isState(t, fmt.Sprint(show(r), numbers(s), b), ring.Next(r, s, b), put(r.Most+1, next(r, numbers(s), b)...))
			}
		}
	}
}

// Each byte is held against the class, and against no other byte.
func TestNextByEachByte(t *testing.T) {
	for in := range 256 {
		r := api.Ring{Class: raw(byte(in)), Least: 0, Most: 2}
		for b := range 256 {
			want := put(3)
			if b == in {
				want = put(3, 1)
			}
			isState(t, fmt.Sprint(in, b), ring.Next(r, put(3, 0), byte(b)), want)
		}
	}
}

func TestAcceptsByHand(t *testing.T) {
	for _, x := range []struct {
		least, most int
		ages        []int
		want        bool
	}{
		{0, 5, nil, false},
		{0, 5, []int{0}, true},
		{0, 5, []int{5}, true},
		{1, 5, []int{0}, false},
		{1, 5, []int{1}, true},
		{3, 5, []int{2}, false},
		{3, 5, []int{0, 1, 2}, false},
		{3, 5, []int{3}, true},
		{3, 5, []int{5}, true},
		{3, 5, []int{0, 4}, true},
		{5, 5, []int{4}, false},
		{5, 5, []int{5}, true},
		{64, 70, []int{63}, false},
		{64, 70, []int{64}, true},
		{63, 70, []int{62}, false},
		{63, 70, []int{63}, true},
		{64, 70, []int{0, 70}, true},
		{1000, 1000, []int{999}, false},
		{1000, 1000, []int{1000}, true},
		{1, 1, []int{0}, false},
		{1, 1, []int{1}, true},
	} {
		if is := ring.Accepts(of("a", x.least, x.most), put(x.most+1, x.ages...)); is != x.want {
			t.Errorf("%d to %d, %v: %t", x.least, x.most, x.ages, is)
		}
	}
}

func TestAccepts(t *testing.T) {
	for _, r := range rings() {
		for _, s := range statesOf(r.Most + 1) {
			if is := ring.Accepts(r, s); is != accepts(r, numbers(s)) {
				t.Errorf("%s %v: %t", show(r), numbers(s), is)
			}
		}
		for age := range r.Most + 1 {
			if is := ring.Accepts(r, put(r.Most+1, age)); is != (age >= r.Least) {
				t.Fatalf("%s %d: %t", show(r), age, is)
			}
		}
		if ring.Accepts(r, ring.None(r)) {
			t.Errorf("%s: None", show(r))
		}
	}
}

func TestRunByHand(t *testing.T) {
	r := of("ab", 2, 5)
	s := put(6, 0, 2)
	isState(t, "no bytes", ring.Run(r, s), s)
	isState(t, "one", ring.Run(r, s, 'a'), put(6, 1, 3))
	isState(t, "three", ring.Run(r, s, 'a', 'b', 'b'), put(6, 3, 5))
	isState(t, "four", ring.Run(r, s, []byte("abab")...), put(6, 4))
	isState(t, "five", ring.Run(r, s, []byte("ababa")...), put(6, 5))
	isState(t, "six", ring.Run(r, s, []byte("ababab")...), put(6))
	for _, w := range []string{"x", "xa", "ax", "axb", "xxx", "aax"} {
		isState(t, w, ring.Run(r, s, []byte(w)...), put(6))
	}
}

func TestRun(t *testing.T) {
	c := chance(11)
	left := 0
	for _, r := range rings() {
		for _, s := range statesOf(r.Most + 1) {
			for _, w := range [][]byte{nil, {'a'}, {0}, {255}, c.text(5, 30), c.text(r.Most+1, 2000), slices.Repeat([]byte("a"), 64)} {
				want := run(r, numbers(s), w)
				got := ring.Run(r, s, w...)
				isState(t, fmt.Sprintf("%s %v %q", show(r), numbers(s), w), got, put(r.Most+1, want...))
				left += len(want)
			}
		}
	}
	if left < 100000 {
		t.Error(left)
	}
}

func TestRunOfManyBytes(t *testing.T) {
	r := of("a", 0, 1000)
	w := slices.Repeat([]byte("a"), 1<<22)
	isState(t, "999", ring.Run(r, put(1001, 0, 1, 2), w[:999]...), put(1001, 999, 1000))
	isState(t, "1000", ring.Run(r, all(1001), w[:1000]...), put(1001, 1000))
	isState(t, "1001", ring.Run(r, all(1001), w[:1001]...), put(1001))
	isState(t, "many", ring.Run(r, all(1001), w...), put(1001))
}

func TestOldest(t *testing.T) {
	for _, r := range rings() {
		if age, is := ring.Oldest(r, ring.None(r)); age != 0 || is {
			t.Errorf("%s: None: %d %t", show(r), age, is)
		}
		for age := range r.Most + 1 {
			if got, is := ring.Oldest(r, put(r.Most+1, age)); got != age || !is {
				t.Fatalf("%s %d: %d %t", show(r), age, got, is)
			}
			if got, is := ring.Oldest(r, put(r.Most+1, 0, age/2, age)); got != age || !is {
				t.Fatalf("%s 0, %d, %d: %d %t", show(r), age/2, age, got, is)
			}
		}
		for _, s := range statesOf(r.Most + 1)[1:] {
			l := numbers(s)
			if len(l) == 0 {
				continue
			}
			if got, is := ring.Oldest(r, s); got != l[len(l)-1] || !is {
				t.Errorf("%s %v: %d %t", show(r), l, got, is)
			}
		}
	}
}

// A ring that Check refuses is one of no class, from 0 to 1 times.
func TestRingsThatMayNotBe(t *testing.T) {
	for _, r := range wrong() {
		isState(t, show(r), ring.None(r), put(2))
		for _, l := range [][]int{nil, {0}, {1}, {0, 1}} {
			s := put(2, l...)
			isState(t, show(r), ring.Trigger(r, s), put(2, append(slices.Clone(l), 0)...))
			for _, b := range []byte{'a', 0, 255} {
				isState(t, show(r), ring.Next(r, s, b), put(2))
				isState(t, show(r), ring.Run(r, s, b), put(2))
				isState(t, show(r), ring.Run(r, s, b, b), put(2))
			}
			isState(t, show(r), ring.Run(r, s), s)
			if is := ring.Accepts(r, s); is != (len(l) > 0) {
				t.Errorf("%s %v: %t", show(r), l, is)
			}
			age, is := ring.Oldest(r, s)
			if is != (len(l) > 0) || is && age != l[len(l)-1] || !is && age != 0 {
				t.Errorf("%s %v: %d %t", show(r), l, age, is)
			}
		}
		// And the states that its numbers would make are none of it.
		if r.Most > 1 && r.Most < 8192 {
			isNoState(t, r, all(r.Most+1))
		}
	}
}

// isNoState fails unless each call takes s as None.
func isNoState(t *testing.T, r api.Ring, s api.Bits) {
	t.Helper()
	many := taken(r).Most + 1
	what := fmt.Sprintf("%s, N %d, %d words", show(r), s.N, len(s.Words))
	isState(t, what, ring.Trigger(r, s), put(many, 0))
	for _, b := range []byte{'a', 'b', 0, 255} {
		isState(t, what, ring.Next(r, s, b), put(many))
		isState(t, what, ring.Run(r, s, b), put(many))
		isState(t, what, ring.Run(r, s, b, 'a'), put(many))
	}
	isState(t, what, ring.Run(r, s), put(many))
	if ring.Accepts(r, s) {
		t.Errorf("%s: accepts", what)
	}
	if age, is := ring.Oldest(r, s); age != 0 || is {
		t.Errorf("%s: %d %t", what, age, is)
	}
}

func TestStatesThatMayNotBe(t *testing.T) {
	for _, r := range rings() {
		for _, s := range wrongStates(r.Most + 1) {
			isNoState(t, r, s)
		}
	}
	for _, r := range wrong() {
		for _, s := range wrongStates(2) {
			isNoState(t, r, s)
		}
	}
}
