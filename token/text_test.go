package token_test

import (
	"fmt"
	"math"
	"strings"
	"testing"

	"riddle/api"
	"riddle/class"
	"riddle/token"
)

// P4.3

func TestTextOfWhatMayNotBe(t *testing.T) {
	for _, x := range refused() {
		if got := token.Text(x); got != "" {
			t.Errorf("%v: %q", x, got)
		}
	}
}

func TestTextOfEachByte(t *testing.T) {
	for n := range 256 {
		if got := token.Text(aByte(5, byte(n))); got != class.Literal(byte(n)) {
			t.Errorf("byte %d: %q", n, got)
		}
	}
}

func TestTextOfSigns(t *testing.T) {
	for _, s := range signs {
		for _, at := range []int{0, 9, math.MaxInt} {
			if got := token.Text(aSign(at, s.kind)); got != s.text {
				t.Errorf("kind %d: %q, not %q", s.kind, got, s.text)
			}
		}
	}
}

func TestTextOfAClassOfOneByte(t *testing.T) {
	for n := range 256 {
		b := byte(n)
		if got := token.Text(aClass(0, raw(b))); got != "["+class.Inner(b)+"]" {
			t.Errorf("byte %d: %q", n, got)
		}
		if got := token.Text(aNot(0, raw(b))); got != "[^"+class.Inner(b)+"]" {
			t.Errorf("all but byte %d: %q", n, got)
		}
	}
}

func TestTextOfClasses(t *testing.T) {
	for _, c := range classes() {
		if class.Count(c) == 1 {
			continue
		}
		if got := token.Text(aClass(0, c)); got != class.Text(c) {
			t.Errorf("%v: %q", c, got)
		}
		if got := token.Text(aNot(0, c)); got != "[^"+strings.TrimPrefix(class.Text(c), "[") {
			t.Errorf("all but %v: %q", c, got)
		}
	}
}

func TestTexts(t *testing.T) {
	for _, x := range []struct {
		token api.Token
		want  string
	}{
		{aByte(0, 'a'), "a"}, {aByte(0, '.'), `\.`}, {aByte(0, ' '), `\x20`}, {aByte(0, 10), `\x0a`}, {aByte(0, '-'), "-"}, {aByte(0, 255), `\xff`}, {aByte(0, '\\'), `\\`},
		{aClass(0, raw('a')), "[a]"}, {aNot(0, raw('a')), "[^a]"}, {aClass(0, raw('^')), `[\x5e]`}, {aNot(0, raw('^')), `[^\x5e]`}, {aClass(0, raw('.')), "[.]"}, {aClass(0, raw('-')), `[\x2d]`},
		{aClass(0, raw('a', 'b')), "[ab]"}, {aNot(0, from('x', 'z')), "[^x-z]"}, {aNot(0, raw(10, '-')), `[^\x0a\x2d]`}, {aClass(0, digit), "[0-9]"}, {aClass(0, without(digit)), `[\x00-/:-\xff]`}, {aClass(0, full), `[\x00-\xff]`},
		{aRepeat(0, 0, -1), "*"}, {aRepeat(0, 1, -1), "+"}, {aRepeat(0, 0, 1), "?"}, {aLazy(0, 0, -1), "*?"}, {aLazy(0, 1, -1), "+?"}, {aLazy(0, 0, 1), "??"},
		{aRepeat(0, 2, 2), "{2}"}, {aRepeat(0, 2, -1), "{2,}"}, {aRepeat(0, 2, 3), "{2,3}"}, {aLazy(0, 2, 2), "{2}?"}, {aLazy(0, 2, -1), "{2,}?"}, {aLazy(0, 2, 3), "{2,3}?"},
		{aRepeat(0, 0, 0), "{0}"}, {aRepeat(0, 1, 1), "{1}"}, {aRepeat(0, 0, 2), "{0,2}"}, {aRepeat(0, 1000, -1), "{1000,}"}, {aRepeat(0, 1000, 1000), "{1000}"}, {aRepeat(0, 0, 1000), "{0,1000}"}, {aLazy(0, 0, 0), "{0}?"},
	} {
		if got := token.Text(x.token); got != x.want {
			t.Errorf("%v: %q, not %q", x.token, got, x.want)
		}
	}
}

func TestTextOfEachRepeat(t *testing.T) {
	short := map[string]string{"{0,}": "*", "{1,}": "+", "{0,1}": "?"}
	for _, least := range []int{0, 1, 2, 3, 10, 500, 999, 1000} {
		for most := least - 1; most <= 1000; most++ {
			want := fmt.Sprintf("{%d,%d}", least, most)
			end := most
			switch most {
			case least:
				want = fmt.Sprintf("{%d}", least)
			case least - 1: // stands for no end
				want, end = fmt.Sprintf("{%d,}", least), -1
			}
			if s, is := short[want]; is {
				want = s
			}
			if got := token.Text(aRepeat(0, least, end)); got != want {
				t.Errorf("%d to %d: %q, not %q", least, end, got, want)
			}
			if got := token.Text(aLazy(0, least, end)); got != want+"?" {
				t.Errorf("%d to %d, lazy: %q, not %q", least, end, got, want+"?")
			}
		}
	}
}

func TestPrint(t *testing.T) {
	if got := token.Print(); len(got) != 0 {
		t.Errorf("of no tokens: %q", got)
	}
	if got := token.Print(aSign(0, api.TkOpen), aByte(0, '('), aSign(0, api.TkClose), aLazy(0, 2, 3), aNot(0, raw('x'))); string(got) != `(?:\(){2,3}?[^x]` {
		t.Errorf("%q", got)
	}
	if got := token.Print(aByte(0, 'a'), aRepeat(0, 3, 2), aByte(-1, 'b'), api.Token{}, aByte(0, 'c')); string(got) != "ac" {
		t.Errorf("with such as may not be: %q", got)
	}
	if got := token.Print(refused()...); len(got) != 0 {
		t.Errorf("of such as may not be: %q", got)
	}
	want := ""
	for _, x := range tokens() {
		if got := token.Print(x); string(got) != token.Text(x) {
			t.Errorf("%v: %q", x, got)
		}
		want += token.Text(x)
	}
	// That is longer than a pattern may be.
	if got := token.Print(tokens()...); string(got) != want || len(got) <= api.MaxPattern {
		t.Errorf("of all: %d bytes, not %d", len(got), len(want))
	}
}
