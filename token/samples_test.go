package token_test

import (
	"math"
	"regexp"
	"slices"
	"strconv"
	"strings"
	"testing"

	"riddle/api"
	"riddle/token"
)

// What the tests hold the package against is made here without a call of the package.

// raw is the class of these bytes.
func raw(l ...byte) api.Class {
	var c api.Class
	for _, b := range l {
		c[b/64] |= 1 << (b % 64)
	}
	return c
}

// from is the class of the bytes from lo to hi.
func from(lo, hi byte) api.Class {
	var c api.Class
	for n := int(lo); n <= int(hi); n++ {
		c[n/64] |= 1 << (n % 64)
	}
	return c
}

func both(l ...api.Class) api.Class {
	var all api.Class
	for _, c := range l {
		for i, w := range c {
			all[i] |= w
		}
	}
	return all
}

func without(c api.Class) api.Class {
	for i, w := range c {
		c[i] = ^w
	}
	return c
}

var (
	digit = from('0', '9')
	word  = both(from('a', 'z'), from('A', 'Z'), digit, raw('_'))
	space = both(from(9, 13), raw(32))
	full  = from(0, 255)
)

func aByte(at int, b byte) api.Token { return api.Token{Kind: api.TkByte, Byte: b, At: at} }

func aClass(at int, c api.Class) api.Token { return api.Token{Kind: api.TkClass, Class: c, At: at} }

func aNot(at int, c api.Class) api.Token {
	return api.Token{Kind: api.TkClass, Class: c, Not: true, At: at}
}

func aRepeat(at, least, most int) api.Token {
	return api.Token{Kind: api.TkRepeat, Least: least, Most: most, At: at}
}

func aLazy(at, least, most int) api.Token {
	return api.Token{Kind: api.TkRepeat, Least: least, Most: most, Lazy: true, At: at}
}

// aSign is a token of a kind that has no field but its place.
func aSign(at, kind int) api.Token { return api.Token{Kind: kind, At: at} }

var signs = []struct {
	kind int
	text string
}{{api.TkDot, "."}, {api.TkOpen, "(?:"}, {api.TkClose, ")"}, {api.TkBar, "|"}, {api.TkHat, "^"}, {api.TkDollar, "$"}}

// bounds are ends of repeats that may be.
var bounds = []struct{ least, most int }{
	{0, -1}, {1, -1}, {2, -1}, {999, -1}, {1000, -1},
	{0, 0}, {0, 1}, {1, 1}, {0, 2}, {1, 2}, {2, 2}, {2, 3}, {10, 100}, {0, 1000}, {1, 1000}, {999, 1000}, {1000, 1000},
}

// classes are classes of some byte and not of all.
func classes() []api.Class {
	l := []api.Class{
		digit, word, space, without(digit), without(word), without(space),
		raw('a'), raw('^'), raw('-'), raw(']'), raw('['), raw('\\'), raw(0), raw(255), raw('.'), raw('$'), raw(' '), raw('\n'),
		raw('a', 'b'), raw('^', 'a'), raw('-', 'a'), raw('a', '-', 'z'), raw('\\', ']'), raw(0, 255), raw('+', ',', '-'), raw(',', '-', '.'),
		from(1, 255), from(0, 254), from('[', '^'), from('+', '-'), from(127, 255),
	}
	c := chance(11)
	for range 60 {
		l = append(l, c.class())
	}
	return l
}

// tokens are tokens that may be, of each kind.
func tokens() []api.Token {
	var l []api.Token
	for b := range 256 {
		l = append(l, aByte(0, byte(b)))
	}
	for _, c := range classes() {
		l = append(l, aClass(1, c), aNot(2, c))
	}
	l = append(l, aClass(0, full), aClass(math.MaxInt, full))
	for _, s := range signs {
		l = append(l, aSign(0, s.kind), aSign(7, s.kind))
	}
	for _, b := range bounds {
		l = append(l, aRepeat(0, b.least, b.most), aLazy(3, b.least, b.most))
	}
	return l
}

// refused are tokens that may not be, each for another reason.
func refused() []api.Token {
	l := []api.Token{{}}
	for _, kind := range []int{math.MinInt, -1, 0, 10, 11, 265, math.MaxInt} {
		l = append(l, api.Token{Kind: kind}, api.Token{Kind: kind, Byte: 'a'}, api.Token{Kind: kind, Class: raw('a')})
	}
	for _, t := range []api.Token{aByte(0, 'a'), aClass(0, raw('a')), aNot(0, raw('a')), aRepeat(0, 0, -1), aSign(0, api.TkDot)} {
		for _, at := range []int{-1, -2, math.MinInt} {
			t.At = at
			l = append(l, t)
		}
	}
	l = append(l, aClass(0, api.Class{}), aNot(0, api.Class{}), aNot(0, full))
	for _, b := range []struct{ least, most int }{
		{-1, -1}, {-1, 0}, {-1, 5}, {math.MinInt, -1}, {math.MinInt, 1000}, {1001, -1}, {1001, 1001}, {math.MaxInt, -1}, {math.MaxInt, math.MaxInt},
		{0, -2}, {0, math.MinInt}, {0, 1001}, {0, math.MaxInt}, {1, 0}, {2, 1}, {1000, 999}, {1000, 1001}, {1000, 0}, {-2, -2}, {-5, -2},
	} {
		l = append(l, aRepeat(0, b.least, b.most), aLazy(0, b.least, b.most))
	}
	return append(l, overfull()...)
}

// overfull are tokens of each kind with one field that the kind does not have.
func overfull() []api.Token {
	var l []api.Token
	for kind := api.TkByte; kind <= api.TkDollar; kind++ {
		t := api.Token{Kind: kind}
		if kind == api.TkClass {
			t.Class = raw('a')
		}
		with := func(change func(t *api.Token)) {
			t := t
			change(&t)
			l = append(l, t)
		}
		if kind != api.TkByte {
			with(func(t *api.Token) { t.Byte = 1 })
			with(func(t *api.Token) { t.Byte = 255 })
		}
		if kind != api.TkClass {
			with(func(t *api.Token) { t.Class = raw(0) })
			with(func(t *api.Token) { t.Class = raw(255) })
			with(func(t *api.Token) { t.Not = true })
		}
		if kind != api.TkRepeat {
			with(func(t *api.Token) { t.Least = 1 })
			with(func(t *api.Token) { t.Least = -1 })
			with(func(t *api.Token) { t.Most = 1 })
			with(func(t *api.Token) { t.Most = -1 })
			with(func(t *api.Token) { t.Lazy = true })
		}
	}
	return l
}

// patterns are patterns of all kinds, with an error and without one.
func patterns() []string {
	return []string{
		"", "a", "ab+c", "b+c", "a.{0,600}z", "a{2,}?[^x-z]$", "(?:ab|\\.)*?x{3}\\d[^\\n-].", "^(a|b(?:c))\\w+?$", "\\x00\\xff\\\\[]]", "[^^-]", "[a-z-9]",
		"***", "??", "\xff\x80[\x80-\xff]", "[\\d\\S]{1000}", "a\\", "a[", "(?", "a{", "[z-a]", "x\\q", strings.Repeat("[^a]", 256), strings.Repeat("a", api.MaxPattern+1),
	}
}

// chance makes numbers of no order, always the same ones.
type chance uint64

func (c *chance) next() uint64 {
	*c = *c*6364136223846793005 + 1442695040888963407
	x := uint64(*c)
	return x ^ x>>33
}

func (c *chance) below(n int) int { return int((c.next() >> 8) % uint64(n)) }

// class is a class of some byte and not of all.
func (c *chance) class() api.Class {
	set := raw(byte(c.below(256)))
	for range c.below(5) {
		lo := c.below(256)
		set = both(set, from(byte(lo), byte(min(lo+c.below(40), 255))))
	}
	return set
}

// token is a token that may be.
func (c *chance) token() api.Token {
	at := c.below(50)
	switch c.below(5) {
	case 0:
		return aByte(at, byte(c.below(256)))
	case 1:
		t := aClass(at, c.class())
		t.Not = c.below(2) == 1
		return t
	case 2:
		return aSign(at, signs[c.below(len(signs))].kind)
	case 3:
		b := bounds[c.below(len(bounds))]
		t := aRepeat(at, b.least, b.most)
		t.Lazy = c.below(2) == 1
		return t
	}
	return aByte(at, `.[](){}|*+?^$\-,:0dx`[c.below(20)])
}

// pattern is so many pieces of patterns, in no order: it is often a wrong one.
func (c *chance) pattern(pieces int) string {
	l := []string{"a", "b", "z", "0", "7", "-", "]", "[", "[^", "^", "$", ".", "(", "(?", "(?:", ":", ")", "|", "*", "+", "?", "{", "{2", "{2,", "{2,3}", "{0}", ",", "}", "\\", "\\d", "\\W", "\\s", "\\n", "\\x", "\\x4", "\\x4a", "\\x5D", "\\]", "\\-", "\\q", "[a-z]", "[^\\d-]", "[\\d-z", "[z-", "1000", "1001"}
	p := ""
	for range pieces {
		p += l[c.below(len(l))]
	}
	return p
}

// each goes through all texts of up to so many of these letters.
func each(letters string, most int, f func(p string)) {
	var grow func(p string)
	grow = func(p string) {
		f(p)
		if len(p) == most {
			return
		}
		for i := range len(letters) {
			grow(p + letters[i:i+1])
		}
	}
	grow("")
}

// What a token, and what a unit of a class, looks like, of bytes below 128.
const (
	escaped = `\\(?:[dwsDWSnrt]|x[0-9a-fA-F]{2}|[^0-9a-zA-Z])`
	inner   = `(?:[^\]\\]|` + escaped + `)`
	numeral = `(0|[1-9][0-9]*)`
)

var (
	escapeForm = regexp.MustCompile(`(?s)^` + escaped)
	rangeForm  = regexp.MustCompile(`(?s)^(` + inner + `)-(` + inner + `)`)
	brokenForm = regexp.MustCompile(`(?s)^` + inner + `-\\`)
	unitForm   = regexp.MustCompile(`(?s)^` + inner)
	openForm   = regexp.MustCompile(`^\((?:\?:|\?)?`)
	countForm  = regexp.MustCompile(`^\{` + numeral + `(,)?` + numeral + `?\}`)
)

// reference cuts a pattern of bytes below 128 in another way than the package, by forms.
func reference(p string) ([]api.Token, int, api.Errno) {
	if len(p) > api.MaxPattern {
		return nil, 0, api.ErrLong
	}
	var l []api.Token
	at := 0
	for at < len(p) {
		t, n, wrong, e := referenceToken(p[at:])
		if e != api.OK {
			return nil, at + wrong, e
		}
		t.At = at
		l = append(l, t)
		at += n
	}
	return l, len(p), api.OK
}

// referenceToken is the token with which p begins, and its length; or an error and its place.
func referenceToken(p string) (api.Token, int, int, api.Errno) {
	one := map[byte]int{'.': api.TkDot, ')': api.TkClose, '|': api.TkBar, '^': api.TkHat, '$': api.TkDollar}
	simple := map[byte]api.Token{'*': aRepeat(0, 0, -1), '+': aRepeat(0, 1, -1), '?': aRepeat(0, 0, 1)}
	switch p[0] {
	case '\\':
		m := escapeForm.FindString(p)
		if m == "" {
			return api.Token{}, 0, 0, api.ErrEscape
		}
		return escapeMeant(m), len(m), 0, api.OK
	case '[':
		return referenceClass(p)
	case '(':
		m := openForm.FindString(p)
		if m == "(?" {
			return api.Token{}, 0, 0, api.ErrGroup
		}
		return aSign(0, api.TkOpen), len(m), 0, api.OK
	case '*', '+', '?':
		return lazily(simple[p[0]], p, 1)
	case '{':
		return referenceCount(p)
	}
	if kind := one[p[0]]; kind != 0 {
		return aSign(0, kind), 1, 0, api.OK
	}
	return aByte(0, p[0]), 1, 0, api.OK
}

func lazily(t api.Token, p string, n int) (api.Token, int, int, api.Errno) {
	if strings.HasPrefix(p[n:], "?") {
		t.Lazy = true
		n++
	}
	return t, n, 0, api.OK
}

func referenceCount(p string) (api.Token, int, int, api.Errno) {
	m := countForm.FindStringSubmatch(p)
	if m == nil || m[2] == "" && m[3] != "" {
		return api.Token{}, 0, 0, api.ErrCount
	}
	least, err := strconv.Atoi(m[1])
	most := least
	if m[2] != "" {
		most = -1
	}
	if err == nil && m[3] != "" {
		most, err = strconv.Atoi(m[3])
	}
	if err != nil || least > 1000 || most > 1000 || most >= 0 && most < least {
		return api.Token{}, 0, 0, api.ErrCount
	}
	return lazily(aRepeat(0, least, most), p, len(m[0]))
}

// escapeMeant is the token of an escape that may be.
func escapeMeant(m string) api.Token {
	named := map[string]api.Class{`\d`: digit, `\w`: word, `\s`: space, `\D`: without(digit), `\W`: without(word), `\S`: without(space)}
	if c, is := named[m]; is {
		return aClass(0, c)
	}
	control := map[string]byte{`\n`: 10, `\r`: 13, `\t`: 9}
	if b, is := control[m]; is {
		return aByte(0, b)
	}
	if len(m) == 4 {
		n, _ := strconv.ParseUint(m[2:], 16, 8)
		return aByte(0, byte(n))
	}
	return aByte(0, m[1])
}

func unitMeant(m string) api.Token {
	if m[0] == '\\' {
		return escapeMeant(m)
	}
	return aByte(0, m[0])
}

func referenceClass(p string) (api.Token, int, int, api.Errno) {
	t := api.Token{Kind: api.TkClass}
	at := 1
	if strings.HasPrefix(p, "[^") {
		t.Not, at = true, 2
	}
	for at < len(p) && p[at] != ']' {
		rest := p[at:]
		if m := rangeForm.FindStringSubmatch(rest); m != nil {
			a, b := unitMeant(m[1]), unitMeant(m[2])
			if a.Kind != api.TkByte || b.Kind != api.TkByte || a.Byte > b.Byte {
				return api.Token{}, 0, at, api.ErrRange
			}
			t.Class = both(t.Class, from(a.Byte, b.Byte))
			at += len(m[0])
		} else if m := brokenForm.FindString(rest); m != "" {
			return api.Token{}, 0, at + len(m) - 1, api.ErrEscape
		} else if m := unitForm.FindString(rest); m != "" {
			u := unitMeant(m)
			if u.Kind == api.TkByte {
				u.Class = raw(u.Byte)
			}
			t.Class = both(t.Class, u.Class)
			at += len(m)
		} else {
			return api.Token{}, 0, at, api.ErrEscape
		}
	}
	if at == len(p) || t.Class == (api.Class{}) || t.Not && t.Class == full {
		return api.Token{}, 0, 0, api.ErrClass
	}
	return t, at + 1, 0, api.OK
}

// cutsInto fails unless p is cut into just these tokens.
func cutsInto(t *testing.T, p string, want ...api.Token) {
	t.Helper()
	got, at, e := token.Lex([]byte(p))
	if e != api.OK || at != len(p) || !slices.Equal(got, want) {
		t.Errorf("%q: %v at %d, error %d; not %v", p, got, at, e, want)
	}
	if told := slices.Collect(token.Tokens([]byte(p))); !slices.Equal(told, want) {
		t.Errorf("%q: Tokens told %v, not %v", p, told, want)
	}
}

// isWrong fails unless p has that error at that place, ahead of which stand just these tokens.
func isWrong(t *testing.T, p string, at int, e api.Errno, ahead ...api.Token) {
	t.Helper()
	got, gotAt, gotE := token.Lex([]byte(p))
	if got != nil || gotAt != at || gotE != e {
		t.Errorf("%q: %v, error %d at %d; not %d at %d", p, got, gotE, gotAt, e, at)
	}
	if told := slices.Collect(token.Tokens([]byte(p))); !slices.Equal(told, ahead) {
		t.Errorf("%q: Tokens told %v, not %v", p, told, ahead)
	}
}
