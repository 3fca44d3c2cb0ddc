package token_test

import (
	"slices"
	"strings"
	"testing"

	"riddle/api"
	"riddle/token"
)

// R1

func TestNoCallPanics(t *testing.T) {
	all := append(tokens(), refused()...)
	for _, x := range all {
		token.Check(x)
		token.Text(x)
		token.Print(x, x)
		token.Same(x, api.Token{})
	}
	for _, p := range patterns() {
		for i := range len(p) + 1 {
			token.Lex([]byte(p[:i]))
			token.Lex([]byte(p[i:]))
			for range token.Tokens([]byte(p[i:])) {
			}
		}
	}
}

// R2

func TestNothingBesideAnError(t *testing.T) {
	for _, p := range []string{"a\\q", "a[", "a[z-a]", "a{", "a(?", strings.Repeat("a", api.MaxPattern+1)} {
		if l, _, e := token.Lex([]byte(p)); l != nil || e == api.OK {
			t.Errorf("%q: %v, error %d", p, l, e)
		}
	}
}

// R3

// guarded is p in a greater memory, whose other bytes are 170: what is written behind the pattern is seen, too.
func guarded(p string) ([]byte, []byte) {
	memory := append([]byte(p), slices.Repeat([]byte{170}, 64)...)
	return memory[:len(p)], memory
}

func TestPatternsAreTheirOwners(t *testing.T) {
	for _, x := range patterns() {
		p, memory := guarded(x)
		was := slices.Clone(memory)
		l, _, _ := token.Lex(p)
		for range token.Tokens(p) {
		}
		if !slices.Equal(memory, was) {
			t.Fatalf("%q was written to", x)
		}
		kept := slices.Clone(l)
		for i := range memory {
			memory[i] ^= 255
		}
		if !slices.Equal(l, kept) {
			t.Fatalf("%q: the tokens change with the pattern", x)
		}
	}
}

func TestAnswersAreApart(t *testing.T) {
	p := []byte("ab[c-e]+")
	a, _, _ := token.Lex(p)
	b, _, _ := token.Lex(p)
	for i := range a[:cap(a)] {
		a[:cap(a)][i] = api.Token{}
	}
	if !slices.Equal(b, []api.Token{aByte(0, 'a'), aByte(1, 'b'), aClass(2, from('c', 'e')), aRepeat(7, 1, -1)}) {
		t.Error("Lex:", b)
	}
	x := aByte(0, 'a')
	first, second := token.Print(x, x), token.Print(x, x)
	for i := range first[:cap(first)] {
		first[:cap(first)][i] = 'z'
	}
	if string(second) != "aa" || token.Text(x) != "a" {
		t.Errorf("Print: %q", second)
	}
}

func TestPrintLeavesItsTokens(t *testing.T) {
	memory := append(tokens(), refused()...)
	was := slices.Clone(memory)
	printed := token.Print(memory[:300]...)
	kept := slices.Clone(printed)
	if !slices.Equal(memory, was) {
		t.Error("Print wrote to its tokens")
	}
	clear(memory)
	if !slices.Equal(printed, kept) {
		t.Error("what is printed changes with the tokens")
	}
}

func TestTokensTellWhatWasThere(t *testing.T) {
	want := []api.Token{aByte(0, 'a'), aRepeat(1, 1, -1), aNot(2, from('b', 'd'))}
	p := []byte("a+[^b-d]")
	all := token.Tokens(p)
	copy(p, "\\q\\q\\q\\q")
	if l := slices.Collect(all); !slices.Equal(l, want) {
		t.Error("the pattern changed ahead of the loop:", l)
	}
	p = []byte("a+[^b-d]")
	var l []api.Token
	for x := range token.Tokens(p) {
		l = append(l, x)
		clear(p)
	}
	if !slices.Equal(l, want) {
		t.Error("the pattern changed within the loop:", l)
	}
	wrong := []byte("a\\q")
	all = token.Tokens(wrong)
	wrong[2] = 'd'
	if l := slices.Collect(all); !slices.Equal(l, want[:1]) {
		t.Error("the error went away:", l)
	}
}

func TestTokensStopAndBeginAnew(t *testing.T) {
	for _, p := range []string{"a+[^b-d](?:)", "a+[^b-d](?:)\\q", "a+[^b-d](?:)["} {
		want := []api.Token{aByte(0, 'a'), aRepeat(1, 1, -1), aNot(2, from('b', 'd')), aSign(8, api.TkOpen), aSign(11, api.TkClose)}
		all := token.Tokens([]byte(p))
		for stop := range len(want) + 1 {
			var l []api.Token
			for x := range all {
				if len(l) == stop {
					break
				}
				l = append(l, x)
			}
			if !slices.Equal(l, want[:stop]) {
				t.Errorf("%q, stopped at %d: %v", p, stop, l)
			}
		}
		for x := range all {
			for y := range all {
				if y.At > x.At {
					break
				}
			}
		}
		if l := slices.Collect(all); !slices.Equal(l, want) {
			t.Errorf("%q, anew: %v", p, l)
		}
	}
}

// R4

func TestNilAndEmptyLists(t *testing.T) {
	for _, p := range [][]byte{nil, {}} {
		if l, at, e := token.Lex(p); len(l) != 0 || at != 0 || e != api.OK {
			t.Error("Lex:", l, at, e)
		}
		for x := range token.Tokens(p) {
			t.Error("Tokens:", x)
		}
	}
	if len(token.Print(nil...)) != 0 || len(token.Print([]api.Token{}...)) != 0 {
		t.Error("Print")
	}
}

// R5

func TestTheZeroToken(t *testing.T) {
	if token.Check(api.Token{}) != api.ErrToken || token.Text(api.Token{}) != "" || !token.Same(api.Token{}, api.Token{At: 1}) {
		t.Error("a token that no call made")
	}
}

// R6

func TestSameCallsAnswerTheSame(t *testing.T) {
	for _, p := range patterns() {
		a, at, e := token.Lex([]byte(p))
		b, atB, eB := token.Lex([]byte(p))
		if !slices.Equal(a, b) || at != atB || e != eB {
			t.Fatalf("%q: another answer", p)
		}
		if !slices.Equal(slices.Collect(token.Tokens([]byte(p))), slices.Collect(token.Tokens([]byte(p)))) {
			t.Fatalf("%q: other tokens", p)
		}
	}
	for _, x := range tokens() {
		if token.Text(x) != token.Text(x) {
			t.Fatalf("%v: another text", x)
		}
	}
}
