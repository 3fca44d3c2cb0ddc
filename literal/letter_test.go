package literal_test

import (
	"testing"

	"riddle/api"
	"riddle/literal"
)

// allLetters are all that there can be, also those that may not be.
func allLetters() []api.Letter {
	var l []api.Letter
	for n := range 256 {
		l = append(l, api.Letter{Byte: byte(n)}, api.Letter{Byte: byte(n), Fold: true})
	}
	return l
}

// P15.1

func TestLetterByHand(t *testing.T) {
	for _, x := range []struct {
		class string
		want  api.Letter
		is    bool
	}{
		{"", api.Letter{}, false},
		{"a", api.Letter{Byte: 'a'}, true},
		{"z", api.Letter{Byte: 'z'}, true},
		{"A", api.Letter{Byte: 'A'}, true},
		{"Z", api.Letter{Byte: 'Z'}, true},
		{"7", api.Letter{Byte: '7'}, true},
		{"\x00", api.Letter{}, true},
		{"\xff", api.Letter{Byte: 255}, true},
		{"@", api.Letter{Byte: '@'}, true},
		{"{", api.Letter{Byte: '{'}, true},
		{"Aa", api.Letter{Byte: 'a', Fold: true}, true},
		{"Qq", api.Letter{Byte: 'q', Fold: true}, true},
		{"Zz", api.Letter{Byte: 'z', Fold: true}, true},
		{"ab", api.Letter{}, false},
		{"AB", api.Letter{}, false},
		{"Ab", api.Letter{}, false},
		{"Ba", api.Letter{}, false},
		{"qR", api.Letter{}, false},
		{"Zy", api.Letter{}, false},
		{"@`", api.Letter{}, false},
		{"[{", api.Letter{}, false},
		{"^~", api.Letter{}, false},
		{"!\x01", api.Letter{}, false},
		{"\x00 ", api.Letter{}, false},
		{"0P", api.Letter{}, false},
		{"\xc1\xe1", api.Letter{}, false},
		{"\xdf\xff", api.Letter{}, false},
		{"\x00\xff", api.Letter{}, false},
		{"Aab", api.Letter{}, false},
		{"ABa", api.Letter{}, false},
		{"Aa\x00", api.Letter{}, false},
		{"Aa\xff", api.Letter{}, false},
		{"abc", api.Letter{}, false},
		{"AaBb", api.Letter{}, false},
	} {
		if l, is := literal.Letter(raw([]byte(x.class)...)); l != x.want || is != x.is {
			t.Errorf("[%q]: %v %t", x.class, l, is)
		}
	}
	if l, is := literal.Letter(full); l != (api.Letter{}) || is {
		t.Error("all bytes:", l, is)
	}
}

// heldLetter fails unless Letter answers what the chapter's words do.
func heldLetter(t *testing.T, c api.Class) bool {
	t.Helper()
	want, has := letterOf(c)
	if l, is := literal.Letter(c); l != want || is != has {
		t.Fatalf("%q: %v %t, not %v %t", bytesIn(c), l, is, want, has)
	}
	return has
}

func TestLetterOfEachByteAndPair(t *testing.T) {
	one, two := 0, 0
	for lo := range 256 {
		if heldLetter(t, raw(byte(lo))) {
			one++
		}
		for hi := lo + 1; hi < 256; hi++ {
			if heldLetter(t, raw(byte(lo), byte(hi))) {
				two++
			}
		}
	}
	if one != 256 || two != 26 {
		t.Error(one, two)
	}
}

func TestLetterOfMore(t *testing.T) {
	c := chance(11)
	for small := byte('a'); small <= 'z'; small++ {
		for third := range 256 {
			if b := byte(third); b != small && b != small-32 && heldLetter(t, raw(small, small-32, b)) {
				t.Fatal(small, b)
			}
		}
	}
	for range 5000 {
		heldLetter(t, raw(c.text(4, "AaBbZz@`[{\x00\xff")...))
		heldLetter(t, api.Class{c.next(), c.next(), c.next(), c.next()})
		heldLetter(t, api.Class{1: 1 << c.below(64), 3: c.next() & c.next() & c.next() & c.next() & c.next() & c.next()})
	}
	for n := range 256 {
		other := full
		other[n/64] &^= 1 << (n % 64)
		heldLetter(t, other)
	}
}

func TestClassByHand(t *testing.T) {
	for _, x := range []struct {
		l    api.Letter
		want string
	}{
		{api.Letter{Byte: 'a'}, "a"},
		{api.Letter{Byte: 'a', Fold: true}, "Aa"},
		{api.Letter{Byte: 'z', Fold: true}, "Zz"},
		{api.Letter{Byte: 'A'}, "A"},
		{api.Letter{Byte: 'A', Fold: true}, "A"},
		{api.Letter{Byte: 'Z', Fold: true}, "Z"},
		{api.Letter{Byte: '7', Fold: true}, "7"},
		{api.Letter{Byte: '7'}, "7"},
		{api.Letter{Byte: '`', Fold: true}, "`"},
		{api.Letter{Byte: '@', Fold: true}, "@"},
		{api.Letter{Byte: '{', Fold: true}, "{"},
		{api.Letter{Byte: '[', Fold: true}, "["},
		{api.Letter{Fold: true}, "\x00"},
		{api.Letter{}, "\x00"},
		{api.Letter{Byte: 31, Fold: true}, "\x1f"},
		{api.Letter{Byte: 255, Fold: true}, "\xff"},
		{api.Letter{Byte: 0xe1, Fold: true}, "\xe1"},
	} {
		if c := literal.Class(x.l); c != raw([]byte(x.want)...) {
			t.Errorf("%v: %q", x.l, bytesIn(c))
		}
	}
}

func TestClassAndIsOfAll(t *testing.T) {
	took := 0
	for _, l := range allLetters() {
		if c := literal.Class(l); c != raw(takes(l)...) {
			t.Fatalf("%v: %q", l, bytesIn(c))
		}
		for n := range 256 {
			b := byte(n)
			if literal.Is(l, b) != is(l, b) {
				t.Fatalf("%v, %d: %t", l, b, !is(l, b))
			}
			if is(l, b) {
				took++
			}
		}
	}
	if took != 512+26 {
		t.Error(took)
	}
}

// P15.5

func TestLettersAndClasses(t *testing.T) {
	many := 0
	for _, l := range allLetters() {
		if !mayLetter(l) {
			// It is the letter without Fold that takes the same.
			if x, is := literal.Letter(literal.Class(l)); !is || x != (api.Letter{Byte: l.Byte}) {
				t.Errorf("%v: %v %t", l, x, is)
			}
			continue
		}
		many++
		if x, is := literal.Letter(literal.Class(l)); !is || x != l {
			t.Errorf("%v: %v %t", l, x, is)
		}
	}
	if many != 256+26 {
		t.Error(many)
	}
}

// And the class is that of its letter, if it has one.
func TestClassesAndLetters(t *testing.T) {
	for lo := range 256 {
		for hi := lo; hi < 256; hi++ {
			c := raw(byte(lo), byte(hi))
			if l, is := literal.Letter(c); is && literal.Class(l) != c {
				t.Fatalf("%q: %v", bytesIn(c), l)
			}
		}
	}
}
