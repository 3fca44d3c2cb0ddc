package bucket_test

import (
	"fmt"
	"slices"
	"testing"

	"riddle/api"
	"riddle/bucket"
)

// given is what calls are handed.
type given struct {
	l       []api.Literal
	number  int
	m       api.Masks
	w       []byte
	buckets byte
}

// sorts are arguments of all sorts, such that may be and such that may not.
func sorts() []given {
	var l []given
	c := chance(41)
	numbers := append([]int{0, 1, 7, 8, 255, 256, 257}, far...)
	for i := range 600 {
		of := alphabets[i%len(alphabets)]
		g := given{c.literals(c.below(12), 16, of), numbers[i%len(numbers)], c.masks(), c.text(20, of), byte(c.next() >> 16)}
		switch i % 6 {
		case 0:
			g.m.Many = numbers[c.below(len(numbers))]
		case 1:
			g.l = slices.Insert(g.l, c.below(len(g.l)+1), wrong[c.below(len(wrong))])
		case 2:
			g.m, _ = bucket.Make(g.l...)
		case 3:
			g.m = api.Masks{Many: g.number}
		}
		l = append(l, g)
	}
	for _, many := range []int{0, 255, 256, 257, 1000} {
		l = append(l, given{l: slices.Repeat(lits("ab", "~cd", "\x00\xff"), many)[:many], m: all, w: []byte("abcd")}, given{l: make([]api.Literal, many)})
	}
	return l
}

// said are all answers.
func said(g given) string {
	m, e := bucket.Make(g.l...)
	text := fmt.Sprint(m, e, bucket.Of(g.number), bucket.Look(g.m, g.w...), bucket.Look(m, g.w...))
	for _, x := range []api.Masks{g.m, m} {
		text += fmt.Sprint(collect(x, g.w), slices.Collect(bucket.Members(x, g.buckets)))
	}
	return text
}

// R1

func TestNoCallPanics(t *testing.T) {
	for _, g := range sorts() {
		isMade(t, g.l...)
		isLook(t, g.m, g.w)
		isScan(t, g.m, g.w)
		isMembers(t, g.m, g.buckets, membersOf(g.m, g.buckets))
		said(g)
	}
}

// Letters of all sorts, most of which may not be.
func TestMakeOfAnyLetters(t *testing.T) {
	c := chance(42)
	may, not := 0, 0
	for range 20000 {
		var l []api.Literal
		for range c.below(4) {
			var x api.Literal
			for _, b := range c.text(4, "azm`{A\x00") {
				x = append(x, api.Letter{Byte: b, Fold: c.below(4) == 0})
			}
			l = append(l, x)
		}
		isMade(t, l...)
		if errorOf(l) == api.OK {
			may++
		} else {
			not++
		}
	}
	if may < 2000 || not < 2000 {
		t.Error(may, not)
	}
}

// R2: with an error the masks are none at all.
func TestNothingBesideAnError(t *testing.T) {
	errors := map[api.Errno]int{}
	for _, g := range sorts() {
		m, e := bucket.Make(g.l...)
		errors[e]++
		if e != api.OK && m != (api.Masks{}) {
			t.Errorf("%d: %v", e, m)
		}
	}
	if len(errors) != 3 || errors[api.ErrLong] < 4 || errors[api.ErrLiteral] < 50 || errors[api.OK] < 400 {
		t.Error(errors)
	}
}

// R3

// wide is a copy of l whose memory goes on behind it, filled with what is nowhere else.
func wide[T any](l []T, fill T) []T {
	w := append(slices.Clone(l), fill, fill, fill)
	return w[:len(l)]
}

// guarded is g in greater memory, so that what is written behind its lists is seen, too.
func guarded(g given) given {
	odd := api.Letter{Byte: 77, Fold: true}
	g.l, g.w = wide(g.l, api.Literal{odd}), wide(g.w, 77)
	for k, x := range g.l {
		g.l[k] = wide(x, odd)
	}
	return g
}

// wholeOf is all memory of g, in a text.
func wholeOf(g given) string {
	text := fmt.Sprint(g.w[:cap(g.w)], g.m)
	for _, x := range g.l[:cap(g.l)] {
		text += fmt.Sprint(x[:cap(x)])
	}
	return text
}

func TestArgumentsAreNotWrittenTo(t *testing.T) {
	for _, g := range sorts() {
		g = guarded(g)
		was := wholeOf(g)
		said(g)
		if is := wholeOf(g); is != was {
			t.Fatalf("%s, and then %s", was, is)
		}
	}
}

// Masks are what the literals were when they were made.
func TestMasksKeepNoLiterals(t *testing.T) {
	l := lits("ab", "~cde", "xyz")
	m := made(t, l...)
	was := m
	for _, x := range l {
		for i := range x {
			x[i] = api.Letter{Byte: '?'}
		}
	}
	clear(l)
	if m != was || m != masksOf(lits("ab", "~cde", "xyz")) || bucket.Look(m, 'C', 'd') != 2 {
		t.Error(m)
	}
}

// What is told is what was there when it was asked for: whether it is changed ahead of a range, within one, or behind one.
func TestIteratorsTellWhatWasThere(t *testing.T) {
	c := chance(43)
	for range 300 {
		l := c.literals(1+c.below(20), 4, "ab")
		w := guarded(given{w: c.around(l, "ab")}).w
		m := made(t, l...)
		want, members := placesOf(m, w), membersOf(m, 1+4+32)
		scan, all := bucket.Scan(m, w), bucket.Members(m, 1+4+32)
		m = api.Masks{Many: 200}
		for range 2 {
			for k := range w[:cap(w)] {
				w[:cap(w)][k]++
			}
			var got []place
			for at, buckets := range scan {
				got = append(got, place{at, buckets})
				w[min(at+1, len(w)-1)] += 3
			}
			if !slices.Equal(got, want) {
				t.Fatalf("%s: %v, not %v", show(l...), got, want)
			}
			if got := slices.Collect(all); !slices.Equal(got, members) {
				t.Fatal(got, members, m.Many)
			}
		}
	}
}

// R4

func TestNilAndEmptyLists(t *testing.T) {
	for _, l := range [][]api.Literal{nil, {}} {
		if m, e := bucket.Make(l...); m != (api.Masks{}) || e != api.OK {
			t.Error(m, e)
		}
	}
	for _, m := range []api.Masks{{}, all, made(t, lits("ab")...)} {
		for _, w := range [][]byte{nil, {}} {
			if x := bucket.Look(m, w...); x != 255 {
				t.Error(x)
			}
			if l := collect(m, w); l != nil {
				t.Error(l)
			}
		}
	}
}

// R5: the masks that no call made are those of no literals.
func TestZeroValues(t *testing.T) {
	var m api.Masks
	if m != made(t) {
		t.Error(made(t))
	}
	for b := range 256 {
		if x := bucket.Look(m, byte(b)); x != 0 {
			t.Error(b, x)
		}
	}
	if x := bucket.Look(m); x != 255 {
		t.Error(x)
	}
	if l := collect(m, []byte("ab\x00\x00\xff\xff")); l != nil {
		t.Error(l)
	}
	if l := slices.Collect(bucket.Members(m, 255)); l != nil {
		t.Error(l)
	}
}

// R6

func TestSameCallsAnswerTheSame(t *testing.T) {
	for _, g := range sorts() {
		was := said(g)
		g = guarded(g)
		if is := said(g); is != was {
			t.Fatalf("%s, and then %s", was, is)
		}
	}
}
