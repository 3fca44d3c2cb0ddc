package token

import (
	"iter"

	"riddle/api"
	"riddle/class"
)

// mark is the place behind what was read, or, with an error, the place that is told with it.
type mark struct {
	at  int
	err api.Errno
}

// words goes through the tokens of p with their marks; what comes with an error is no token, and the last.
func words(p []byte) iter.Seq2[api.Token, mark] {
	return func(yield func(api.Token, mark) bool) {
		var t api.Token
		var m mark
	next:
		if m.at == len(p) {
			return
		}
		t, m = word(p, m.at)
		if yield(t, m) && m.err == api.OK {
			goto next
		}
	}
}

// word answers the token that begins at a place of p, as all that follows do with their part.
func word(p []byte, at int) (api.Token, mark) {
	switch p[at] {
	case '\\':
		return escape(p, at)
	case '[':
		return bracket(p, at)
	case '(':
		return open(p, at)
	case '*', '+', '?', '{':
		return repeat(p, at)
	}
	return sign(p, at)
}

func escape(p []byte, at int) (api.Token, mark) {
	t := api.Token{Kind: api.TkByte, At: at}
	is := true
	end := at + 2
	if end > len(p) {
		goto wrong
	}
	switch b := p[at+1]; b {
	case 'd', 'w', 's', 'D', 'W', 'S':
		t.Kind, t.Class = api.TkClass, named(b)
	case 'n':
		t.Byte = '\n'
	case 'r':
		t.Byte = '\r'
	case 't':
		t.Byte = '\t'
	case 'x':
		t.Byte, is = hex(p, end)
		end += 2
	default:
		t.Byte, is = b, !isLetter(b) && !isDigit(b)
	}
	if is {
		return t, mark{at: end}
	}
wrong:
	return api.Token{}, mark{at, api.ErrEscape}
}

// named answers the class whose letter stands behind a \.
func named(b byte) api.Class {
	switch b {
	case 'd':
		return class.Digit()
	case 'w':
		return class.Word()
	case 's':
		return class.Space()
	case 'D':
		return class.Not(class.Digit())
	case 'W':
		return class.Not(class.Word())
	}
	return class.Not(class.Space())
}

// hex answers the byte that the two digits at a place say, and whether they are digits.
func hex(p []byte, at int) (byte, bool) {
	if at+2 > len(p) {
		return 0, false
	}
	high, isHigh := hexDigit(p[at])
	low, isLow := hexDigit(p[at+1])
	return high<<4 | low, isHigh && isLow
}

func hexDigit(b byte) (byte, bool) {
	switch {
	case isDigit(b):
		return b - '0', true
	case b >= 'a' && b <= 'f':
		return b - 'a' + 10, true
	case b >= 'A' && b <= 'F':
		return b - 'A' + 10, true
	}
	return 0, false
}

func bracket(p []byte, at int) (api.Token, mark) {
	t := api.Token{Kind: api.TkClass, Not: has(p, at+1, '^'), At: at}
	m := mark{at: at + 1}
	var part api.Class
	if t.Not {
		m.at++
	}
next:
	if m.at == len(p) {
		goto wrong
	}
	if p[m.at] == ']' {
		goto end
	}
	part, m = units(p, m.at)
	if m.err != api.OK {
		return api.Token{}, m
	}
	t.Class = class.Union(t.Class, part)
	goto next
end:
	// Each unit has a byte, so a class of none is one of no unit.
	if mayClass(t.Class, t.Not) {
		return t, mark{at: m.at + 1}
	}
wrong:
	return api.Token{}, mark{at, api.ErrClass}
}

// units answers the bytes of the unit at a place, or of the range that begins with it.
func units(p []byte, at int) (api.Class, mark) {
	first, m := unit(p, at)
	if m.err != api.OK {
		return api.Class{}, m
	}
	if !isDash(p, m.at) {
		return bytesOf(first), m
	}
	last, m := unit(p, m.at+1)
	if m.err != api.OK {
		return api.Class{}, m
	}
	if first.Kind != api.TkByte || last.Kind != api.TkByte || first.Byte > last.Byte {
		return api.Class{}, mark{at, api.ErrRange}
	}
	return class.Range(first.Byte, last.Byte), m
}

func unit(p []byte, at int) (api.Token, mark) {
	if p[at] == '\\' {
		return escape(p, at)
	}
	return api.Token{Kind: api.TkByte, Byte: p[at], At: at}, mark{at: at + 1}
}

// isDash answers whether a - at a place, behind a unit, makes a range of it.
func isDash(p []byte, at int) bool {
	return has(p, at, '-') && at+1 < len(p) && p[at+1] != ']'
}

func bytesOf(t api.Token) api.Class {
	if t.Kind == api.TkByte {
		return class.Of(t.Byte)
	}
	return t.Class
}

func open(p []byte, at int) (api.Token, mark) {
	t := api.Token{Kind: api.TkOpen, At: at}
	switch {
	case !has(p, at+1, '?'):
		return t, mark{at: at + 1}
	case has(p, at+2, ':'):
		return t, mark{at: at + 3}
	}
	return api.Token{}, mark{at, api.ErrGroup}
}

func repeat(p []byte, at int) (api.Token, mark) {
	t := api.Token{Kind: api.TkRepeat, At: at}
	m := mark{at: at + 1}
	switch p[at] {
	case '+':
		t.Least = 1
		fallthrough
	case '*':
		t.Most = endless
	case '?':
		t.Most = 1
	default:
		t.Least, t.Most, m = count(p, at)
	}
	if m.err != api.OK {
		return api.Token{}, m
	}
	if has(p, m.at, '?') {
		t.Lazy = true
		m.at++
	}
	return t, m
}

// count answers the bounds that stand behind the { at a place.
func count(p []byte, from int) (int, int, mark) {
	most := endless
	least, at, is := number(p, from+1)
	if !is {
		goto wrong
	}
	if has(p, at, '}') {
		most = least
		goto end
	}
	if !has(p, at, ',') {
		goto wrong
	}
	at++
	if has(p, at, '}') {
		goto end
	}
	most, at, is = number(p, at)
	if !is || !mayRepeat(least, most) || !has(p, at, '}') {
		goto wrong
	}
end:
	return least, most, mark{at: at + 1}
wrong:
	return 0, 0, mark{from, api.ErrCount}
}

// number answers the number at a place, the place behind it, and whether it is one that a count may have.
func number(p []byte, from int) (int, int, bool) {
	n, at := 0, from
	// A number that is too great already is read no further, as it may have more digits than an int.
	for at < len(p) && isDigit(p[at]) && n <= api.MaxRepeat {
		n = n*10 + int(p[at]-'0')
		at++
	}
	padded := at > from+1 && p[from] == '0'
	return n, at, at > from && n <= api.MaxRepeat && !padded
}

// sign answers the token of one byte that nothing else can be.
func sign(p []byte, at int) (api.Token, mark) {
	t := api.Token{At: at}
	switch p[at] {
	case '.':
		t.Kind = api.TkDot
	case ')':
		t.Kind = api.TkClose
	case '|':
		t.Kind = api.TkBar
	case '^':
		t.Kind = api.TkHat
	case '$':
		t.Kind = api.TkDollar
	default:
		t.Kind, t.Byte = api.TkByte, p[at]
	}
	return t, mark{at: at + 1}
}

func has(p []byte, at int, b byte) bool { return at < len(p) && p[at] == b }

func isDigit(b byte) bool { return b >= '0' && b <= '9' }

func isLetter(b byte) bool { return b >= 'a' && b <= 'z' || b >= 'A' && b <= 'Z' }
