package token_test

import (
	"slices"
	"strings"
	"testing"

	"riddle/api"
	"riddle/token"
)

// sameTokens is whether two lists are the same but for the places.
func sameTokens(a, b []api.Token) bool { return slices.EqualFunc(a, b, sameFields) }

// P4.4

func TestThereAndBackOfOne(t *testing.T) {
	for _, x := range tokens() {
		back, at, e := token.Lex(token.Print(x))
		if e != api.OK || !sameTokens(back, []api.Token{x}) || at != len(token.Text(x)) {
			t.Errorf("%v: %q is %v at %d, error %d", x, token.Text(x), back, at, e)
		}
	}
}

func TestThereAndBackOfTwo(t *testing.T) {
	var l []api.Token
	for _, x := range tokens() {
		// Bytes that are like each other in a pattern need not all stand beside all others.
		if x.Kind != api.TkByte || x.Byte < 32 && x.Byte%8 == 0 || x.Byte > 32 && x.Byte < 126 || x.Byte > 200 && x.Byte%8 == 0 {
			l = append(l, x)
		}
	}
	for _, a := range l {
		for _, b := range l {
			if a.Kind == api.TkRepeat && b.Kind == api.TkRepeat {
				continue
			}
			p := token.Print(a, b)
			if back, _, e := token.Lex(p); e != api.OK || !sameTokens(back, []api.Token{a, b}) {
				t.Fatalf("%v, %v: %q is %v, error %d", a, b, p, back, e)
			}
		}
	}
}

func TestThereAndBackOfMany(t *testing.T) {
	c := chance(13)
	longest, tooLong := 0, 0
	for range 6000 {
		var l []api.Token
		for range c.below(200) {
			x := c.token()
			if len(l) == 0 || x.Kind != api.TkRepeat || l[len(l)-1].Kind != api.TkRepeat {
				l = append(l, x)
			}
		}
		p := token.Print(l...)
		back, at, e := token.Lex(p)
		if len(p) > api.MaxPattern {
			tooLong++
			if e != api.ErrLong || at != 0 || back != nil {
				t.Fatalf("%d bytes: %v at %d, error %d", len(p), back, at, e)
			}
			continue
		}
		if e != api.OK || at != len(p) || !sameTokens(back, l) {
			t.Fatalf("%q: %v at %d, error %d", p, back, at, e)
		}
		longest = max(longest, len(p))
	}
	if longest < 900 || tooLong < 100 {
		t.Errorf("the longest one had %d bytes, %d had too many", longest, tooLong)
	}
}

// What was lexed is printed, lexed, and printed again.
func TestPrintedAgain(t *testing.T) {
	c := chance(14)
	l := patterns()
	for range 30000 {
		l = append(l, c.pattern(c.below(8)))
	}
	each("a*?+", 6, func(p string) { l = append(l, p, strings.ReplaceAll(p, "+", "{0,1}")) })
	many := 0
	for _, p := range l {
		was, _, e := token.Lex([]byte(p))
		printed := token.Print(was...)
		if e != api.OK || len(printed) > api.MaxPattern {
			continue
		}
		again, _, e := token.Lex(printed)
		if e != api.OK || !slices.Equal(token.Print(again...), printed) {
			t.Fatalf("%q: %q, then %v, error %d", p, printed, again, e)
		}
		if !hasRepeatsInARow(was) && !sameTokens(again, was) {
			t.Fatalf("%q: %v, then %v", p, was, again)
		}
		many++
	}
	if many < 10000 {
		t.Errorf("only %d were printed", many)
	}
}

// hasRepeatsInARow is whether two repeats follow each other. The text of the second one may be a ?, which belongs to the first one when it is read.
func hasRepeatsInARow(l []api.Token) bool {
	for i := range len(l) - 1 {
		if l[i].Kind == api.TkRepeat && l[i+1].Kind == api.TkRepeat {
			return true
		}
	}
	return false
}

// P4.5

func TestAllOfIt(t *testing.T) {
	c := chance(15)
	l := patterns()
	for range 20000 {
		l = append(l, c.pattern(c.below(10)))
	}
	whole := 0
	for _, p := range l {
		var told []api.Token
		for x := range token.Tokens([]byte(p)) {
			told = append(told, x)
		}
		_, _, e := token.Lex([]byte(p))
		if e == api.OK {
			whole++
			told = append(told, api.Token{At: len(p)})
		}
		if len(told) > 0 && told[0].At != 0 {
			t.Fatalf("%q begins at %d", p, told[0].At)
		}
		for i := range len(told) - 1 {
			oneByItself(t, p, told[i], told[i+1].At)
		}
	}
	if whole < 4000 {
		t.Errorf("only %d were cut to their end", whole)
	}
}

// oneByItself fails unless p, from x on up to end, is x alone.
func oneByItself(t *testing.T, p string, x api.Token, end int) {
	t.Helper()
	if x.At < 0 || end <= x.At || end > len(p) {
		t.Fatalf("%q: %v up to %d", p, x, end)
	}
	alone, _, e := token.Lex([]byte(p[x.At:end]))
	if e != api.OK || len(alone) != 1 || alone[0].At != 0 || !sameFields(alone[0], x) || token.Check(x) != api.OK {
		t.Fatalf("%q: %q is %v, not %v", p, p[x.At:end], alone, x)
	}
}

// Any bytes are cut, or refused at a place that they have, and what is told may be.
func TestAnyBytes(t *testing.T) {
	c := chance(16)
	for range 20000 {
		p := make([]byte, c.below(30))
		for i := range p {
			p[i] = byte(c.next() >> 20)
			if c.below(3) == 0 {
				p[i] = `\[]-^(?:{,}x`[c.below(12)]
			}
		}
		l, at, e := token.Lex(p)
		if e == api.OK && at != len(p) || e != api.OK && (at < 0 || at >= len(p) || l != nil) {
			t.Fatalf("%q: %v, error %d at %d", p, l, e, at)
		}
		for _, x := range l {
			if token.Check(x) != api.OK {
				t.Fatalf("%q: %v may not be", p, x)
			}
		}
	}
}
