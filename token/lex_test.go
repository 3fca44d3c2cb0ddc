package token_test

import (
	"slices"
	"strconv"
	"strings"
	"testing"

	"riddle/api"
	"riddle/token"
)

// P4.2

func TestExamples(t *testing.T) {
	cutsInto(t, "a{2,}?[^x-z]$", aByte(0, 'a'), aLazy(1, 2, -1), aNot(6, from('x', 'z')), aSign(12, api.TkDollar))
	isWrong(t, "[z-a]", 1, api.ErrRange)
}

func TestLexOfNothing(t *testing.T) {
	cutsInto(t, "")
}

func TestLexOfEachByte(t *testing.T) {
	by := map[byte]api.Token{
		'.': aSign(0, api.TkDot), '(': aSign(0, api.TkOpen), ')': aSign(0, api.TkClose), '|': aSign(0, api.TkBar), '^': aSign(0, api.TkHat), '$': aSign(0, api.TkDollar),
		'*': aRepeat(0, 0, -1), '+': aRepeat(0, 1, -1), '?': aRepeat(0, 0, 1),
	}
	wrong := map[byte]api.Errno{'\\': api.ErrEscape, '[': api.ErrClass, '{': api.ErrCount}
	for n := range 256 {
		b := byte(n)
		p := string([]byte{b})
		if e, is := wrong[b]; is {
			isWrong(t, p, 0, e)
			continue
		}
		want, is := by[b]
		if !is {
			want = aByte(0, b)
		}
		cutsInto(t, p, want)
	}
	cutsInto(t, "]}-,:", aByte(0, ']'), aByte(1, '}'), aByte(2, '-'), aByte(3, ','), aByte(4, ':'))
}

func TestLexOfLongPatterns(t *testing.T) {
	p := strings.Repeat("a", api.MaxPattern)
	var want []api.Token
	for at := range api.MaxPattern {
		want = append(want, aByte(at, 'a'))
	}
	cutsInto(t, p, want...)
	isWrong(t, p+"a", 0, api.ErrLong)
	isWrong(t, "\\q"+p, 0, api.ErrLong)
	isWrong(t, strings.Repeat("a", 1<<20), 0, api.ErrLong)
	isWrong(t, p[1:]+"\\", api.MaxPattern-1, api.ErrEscape, want[:api.MaxPattern-1]...)
}

// Escapes

func TestEscapesOfEachByte(t *testing.T) {
	for n := range 256 {
		b := byte(n)
		p := string([]byte{'a', '\\', b})
		switch {
		case strings.IndexByte("dwsDWSnrt", b) >= 0:
			want := escapeMeant(p[1:])
			want.At = 1
			cutsInto(t, p, aByte(0, 'a'), want)
		case b >= '0' && b <= '9' || b >= 'a' && b <= 'z' || b >= 'A' && b <= 'Z':
			isWrong(t, p, 1, api.ErrEscape, aByte(0, 'a'))
		default:
			cutsInto(t, p, aByte(0, 'a'), aByte(1, b))
		}
	}
}

func TestEscapes(t *testing.T) {
	cutsInto(t, `\d\w\s`, aClass(0, digit), aClass(2, word), aClass(4, space))
	cutsInto(t, `\D\W\S`, aClass(0, without(digit)), aClass(2, without(word)), aClass(4, without(space)))
	cutsInto(t, `\n\r\t`, aByte(0, 10), aByte(2, 13), aByte(4, 9))
	cutsInto(t, `\\\.\_\ `, aByte(0, '\\'), aByte(2, '.'), aByte(4, '_'), aByte(6, ' '))
	cutsInto(t, "\\\xff\\\x00\\\n", aByte(0, 255), aByte(2, 0), aByte(4, 10))
}

func TestEscapeAtTheEnd(t *testing.T) {
	isWrong(t, `\`, 0, api.ErrEscape)
	isWrong(t, `ab\`, 2, api.ErrEscape, aByte(0, 'a'), aByte(1, 'b'))
	isWrong(t, `\\\`, 2, api.ErrEscape, aByte(0, '\\'))
}

func TestNumbersOfBytes(t *testing.T) {
	digits := "0123456789abcdef"
	for n := range 256 {
		low := string([]byte{'\\', 'x', digits[n/16], digits[n%16]})
		cutsInto(t, low, aByte(0, byte(n)))
		cutsInto(t, `\x`+strings.ToUpper(low[2:]), aByte(0, byte(n)))
	}
	cutsInto(t, `\xaF\xFa`, aByte(0, 0xaf), aByte(4, 0xfa))
	cutsInto(t, `\x411`, aByte(0, 'A'), aByte(4, '1'))
	for _, p := range []string{`\x`, `\x4`, `\xg0`, `\x0g`, `\x4g`, `\xG4`, `\x-1`, `\x+1`, `\x 4`, `\x4 `, `\x4_`, `\x_4`, `\x4\`, `\x4\x41`, `\x/0`, `\x0/`, `\x:0`, `\x0:`, `\x@0`, "\\x0`", "\\x\xb0\xb1", `\X41`} {
		isWrong(t, p, 0, api.ErrEscape)
		isWrong(t, "b"+p, 1, api.ErrEscape, aByte(0, 'b'))
	}
}

// Classes

func TestClasses(t *testing.T) {
	for _, x := range []struct {
		p    string
		want api.Class
	}{
		{"a", raw('a')}, {"ab", raw('a', 'b')}, {"aa", raw('a')}, {"a-c", raw('a', 'b', 'c')}, {"a-a", raw('a')}, {"a-cx-z", both(from('a', 'c'), from('x', 'z'))},
		{"a^", raw('a', '^')}, {"a^b", raw('a', '^', 'b')}, {"[", raw('[')}, {"[a", raw('[', 'a')}, {".", raw('.')}, {"$|(){}*+?", raw([]byte("$|(){}*+?")...)},
		{"\\d", digit}, {"\\D", without(digit)}, {"\\d\\D", full}, {"\\w\\s", both(word, space)}, {"\\W", without(word)}, {"\\S", without(space)}, {"\\d_", both(digit, raw('_'))},
		{"\\n\\r\\t", raw(10, 13, 9)}, {"\\x41", raw('A')}, {"\\]", raw(']')}, {"\\\\", raw('\\')}, {"\\^a", raw('^', 'a')}, {"\\-", raw('-')},
		{"\\x00-\\xff", full}, {"\x00-\xff", full}, {"\\t-\\r", from(9, 13)}, {"\\[-\\]", from('[', ']')}, {"a\\-z", raw('a', '-', 'z')}, {"\xff\x80", raw(255, 128)}, {"\\x41-C", from('A', 'C')}, {"A-\\x43", from('A', 'C')},
	} {
		cutsInto(t, "["+x.p+"]", aClass(0, x.want))
		cutsInto(t, "b["+x.p+"]c", aByte(0, 'b'), aClass(1, x.want), aByte(3+len(x.p), 'c'))
		if x.want != full {
			cutsInto(t, "[^"+x.p+"]", aNot(0, x.want))
		}
	}
	cutsInto(t, "[^^]", aNot(0, raw('^')))
	cutsInto(t, "[^^-a]", aNot(0, from('^', 'a')))
	cutsInto(t, "[a]]", aClass(0, raw('a')), aByte(3, ']'))
	cutsInto(t, "[[a]]", aClass(0, raw('[', 'a')), aByte(4, ']'))
}

func TestDashes(t *testing.T) {
	for _, x := range []struct {
		p    string
		want api.Class
	}{
		{"-", raw('-')}, {"--", raw('-')}, {"---", raw('-')}, {"-a", raw('-', 'a')}, {"a-", raw('a', '-')}, {"a-c-", both(from('a', 'c'), raw('-'))},
		{"a-c-e", both(from('a', 'c'), raw('-', 'e'))}, {"a-z-9", both(from('a', 'z'), raw('-', '9'))}, {"a-c-e-g", both(from('a', 'c'), raw('-'), from('e', 'g'))}, {"a-c--9", both(from('a', 'c'), from('-', '9'))},
		{"--9", from('-', '9')}, {"+--", from('+', '-')}, {"---9", both(raw('-'), raw('-', '9'))}, {"-a-c", both(raw('-'), from('a', 'c'))}, {"\\d-", both(digit, raw('-'))}, {"-\\d", both(raw('-'), digit)}, {"0-9\\d-", both(digit, raw('-'))},
	} {
		cutsInto(t, "["+x.p+"]", aClass(0, x.want))
		cutsInto(t, "[^"+x.p+"]", aNot(0, x.want))
	}
	isWrong(t, "[a--]", 1, api.ErrRange)
}

func TestWrongRanges(t *testing.T) {
	a, b := aByte(0, 'a'), aByte(1, 'b')
	isWrong(t, "ab[x-c]", 3, api.ErrRange, a, b)
	isWrong(t, "ab[^x-c]", 4, api.ErrRange, a, b)
	isWrong(t, "[az-y]", 2, api.ErrRange)
	isWrong(t, "[\\x42-\\x41]", 1, api.ErrRange)
	isWrong(t, "[a\\x42-A]", 2, api.ErrRange)
	isWrong(t, "[\\d-z]", 1, api.ErrRange)
	isWrong(t, "[a-\\d]", 1, api.ErrRange)
	isWrong(t, "[ba-\\d]", 2, api.ErrRange)
	isWrong(t, "[\\x00-\\d]", 1, api.ErrRange)
	isWrong(t, "[\\D-\\x00]", 1, api.ErrRange)
	isWrong(t, "[\\w-\\s]", 1, api.ErrRange)
	isWrong(t, "[\\d-\\d]", 1, api.ErrRange)
	isWrong(t, "[\\D--]", 1, api.ErrRange)
	isWrong(t, "[a-c\\d-z]", 4, api.ErrRange)
	// A range that is wrong is read ahead of what stands behind it.
	isWrong(t, "[z-a", 1, api.ErrRange)
	isWrong(t, "[z-a\\q]", 1, api.ErrRange)
	isWrong(t, "[z-ay-b]", 1, api.ErrRange)
	isWrong(t, "[^\\d-z\\x00-\\xff]", 2, api.ErrRange)
}

func TestWrongEscapesInClasses(t *testing.T) {
	isWrong(t, "[\\q]", 1, api.ErrEscape)
	isWrong(t, "[a\\q]", 2, api.ErrEscape)
	isWrong(t, "[^\\x4]", 2, api.ErrEscape)
	isWrong(t, "[\\0]", 1, api.ErrEscape)
	isWrong(t, "[\\", 1, api.ErrEscape)
	isWrong(t, "[^\\", 2, api.ErrEscape)
	isWrong(t, "[ab\\q", 3, api.ErrEscape)
	isWrong(t, "[a\\q-z]", 2, api.ErrEscape)
	// The second unit is read ahead of what the range is.
	isWrong(t, "[a-\\q]", 3, api.ErrEscape)
	isWrong(t, "[\\d-\\q]", 4, api.ErrEscape)
	isWrong(t, "[z-\\x4]", 3, api.ErrEscape)
	isWrong(t, "[a-\\", 3, api.ErrEscape)
	isWrong(t, "[\\q-\\q]", 1, api.ErrEscape)
	isWrong(t, "[^\\x00-\\xff\\q]", 11, api.ErrEscape)
}

func TestWrongClasses(t *testing.T) {
	a := aByte(0, 'a')
	for _, p := range []string{"[", "[^", "[a", "[^a", "[-", "[a-", "[a-z", "[a-z-", "[\\]", "[\\d", "[]", "[^]", "[]a]", "[^]a]", "[^\\x00-\\xff]", "[^\\d\\D]", "[^\\D0-9]", "[^\x00-\xfe\xff]", "[[", "[^^", "[]\\q", "[][z-a]"} {
		isWrong(t, p, 0, api.ErrClass)
		isWrong(t, "a"+p, 1, api.ErrClass, a)
	}
	cutsInto(t, "[^\\x00-\\xfe]", aNot(0, from(0, 254)))
	cutsInto(t, "[^\\x01-\\xff]", aNot(0, from(1, 255)))
	cutsInto(t, "[\\x00-\\xff]", aClass(0, full))
}

// Groups

func TestGroups(t *testing.T) {
	cutsInto(t, "(a)", aSign(0, api.TkOpen), aByte(1, 'a'), aSign(2, api.TkClose))
	cutsInto(t, "(?:a)", aSign(0, api.TkOpen), aByte(3, 'a'), aSign(4, api.TkClose))
	cutsInto(t, "((?:(", aSign(0, api.TkOpen), aSign(1, api.TkOpen), aSign(4, api.TkOpen))
	cutsInto(t, "(:?", aSign(0, api.TkOpen), aByte(1, ':'), aRepeat(2, 0, 1))
	cutsInto(t, "(?:?", aSign(0, api.TkOpen), aRepeat(3, 0, 1))
	cutsInto(t, "(*)+", aSign(0, api.TkOpen), aRepeat(1, 0, -1), aSign(2, api.TkClose), aRepeat(3, 1, -1))
	cutsInto(t, "(\\?", aSign(0, api.TkOpen), aByte(1, '?'))
	cutsInto(t, "()|", aSign(0, api.TkOpen), aSign(1, api.TkClose), aSign(2, api.TkBar))
	for _, p := range []string{"(?", "(?=a)", "(?!a)", "(?<a>b)", "(?P<a>b)", "(?i)", "(?)", "(??:a)", "(? :a)", "(?\\:", "(?[", "(?*"} {
		isWrong(t, p, 0, api.ErrGroup)
		isWrong(t, "b("+p, 2, api.ErrGroup, aByte(0, 'b'), aSign(1, api.TkOpen))
	}
}

// Repeats

func TestCounts(t *testing.T) {
	for _, x := range []struct {
		p           string
		least, most int
	}{
		{"*", 0, -1}, {"+", 1, -1}, {"?", 0, 1},
		{"{0}", 0, 0}, {"{1}", 1, 1}, {"{2}", 2, 2}, {"{10}", 10, 10}, {"{999}", 999, 999}, {"{1000}", 1000, 1000},
		{"{0,}", 0, -1}, {"{1,}", 1, -1}, {"{2,}", 2, -1}, {"{1000,}", 1000, -1},
		{"{0,0}", 0, 0}, {"{0,1}", 0, 1}, {"{1,1}", 1, 1}, {"{2,3}", 2, 3}, {"{9,10}", 9, 10}, {"{0,1000}", 0, 1000}, {"{999,1000}", 999, 1000}, {"{1000,1000}", 1000, 1000},
	} {
		a, end := aByte(0, 'a'), 1+len(x.p)
		cutsInto(t, x.p, aRepeat(0, x.least, x.most))
		cutsInto(t, x.p+"?", aLazy(0, x.least, x.most))
		cutsInto(t, "a"+x.p+"b", a, aRepeat(1, x.least, x.most), aByte(end, 'b'))
		cutsInto(t, "a"+x.p+"?b", a, aLazy(1, x.least, x.most), aByte(end+1, 'b'))
		cutsInto(t, "a"+x.p+"??", a, aLazy(1, x.least, x.most), aRepeat(end+1, 0, 1))
		cutsInto(t, "a"+x.p+"???", a, aLazy(1, x.least, x.most), aLazy(end+1, 0, 1))
		cutsInto(t, "a"+x.p+"*", a, aRepeat(1, x.least, x.most), aRepeat(end, 0, -1))
		cutsInto(t, "a"+x.p+"+?", a, aRepeat(1, x.least, x.most), aLazy(end, 1, -1))
		cutsInto(t, "a"+x.p+"\\?", a, aRepeat(1, x.least, x.most), aByte(end, '?'))
	}
}

func TestEachCount(t *testing.T) {
	for n := range api.MaxRepeat + 1 {
		text := strconv.Itoa(n)
		cutsInto(t, "{"+text+"}", aRepeat(0, n, n))
		cutsInto(t, "{"+text+",}", aRepeat(0, n, -1))
		cutsInto(t, "{0,"+text+"}", aRepeat(0, 0, n))
		cutsInto(t, "{"+text+",1000}", aRepeat(0, n, 1000))
		if n > 0 {
			isWrong(t, "{"+text+","+strconv.Itoa(n-1)+"}", 0, api.ErrCount)
		}
	}
}

func TestWrongCounts(t *testing.T) {
	many := strings.Repeat("9", 300)
	for _, p := range []string{
		"{", "{}", "{,}", "{,2}", "{2", "{2,", "{2,3", "{2,1}", "{1,0}", "{1000,999}", "{2,,3}", "{2,3,}", "{2,3,4}", "{a}", "{2a}", "{2,a}", "{2,3a}", "{ 2}", "{2 }", "{2, 3}", "{-1}", "{+1}", "{1,-1}", "{1,+2}",
		"{00}", "{01}", "{007}", "{00,}", "{0,00}", "{0,01}", "{2,03}", "{02,3}", "{01000}",
		"{1001}", "{1001,}", "{0,1001}", "{1001,1001}", "{1001,1002}", "{1000,1001}", "{9999}", "{10000}", "{10000,}", "{" + many + "}", "{2," + many + "}", "{" + many + ",}",
		// Such numbers are 1 when an int of 32 or 64 bits wraps round.
		"{4294967297}", "{18446744073709551617}", "{0,4294967297}", "{0,18446744073709551617}",
		"{{2}", "{2{", "{\\d}", "{2]", "{2)", "{?", "{2?}", "{2.5}", "{2;3}", "{\xb2}", "{/}", "{:}", "{1:}", "{1/}",
	} {
		isWrong(t, p, 0, api.ErrCount)
		isWrong(t, "a"+p, 1, api.ErrCount, aByte(0, 'a'))
	}
}

// The first error from the left

func TestFirstError(t *testing.T) {
	ahead := []api.Token{aByte(0, 'a'), aRepeat(1, 1, -1)}
	for _, x := range []struct {
		p    string
		at   int
		want api.Errno
	}{
		{`\q`, 0, api.ErrEscape}, {`[z-a]`, 1, api.ErrRange}, {`{2,1}`, 0, api.ErrCount}, {`(?=`, 0, api.ErrGroup}, {`[\q]`, 1, api.ErrEscape}, {`[]`, 0, api.ErrClass},
	} {
		for _, behind := range []string{"", "\\", "(?", "{", "b"} {
			isWrong(t, "a+"+x.p+behind, 2+x.at, x.want, ahead...)
		}
	}
	// A class that does not end is told at the pattern's end, behind what is wrong in it.
	isWrong(t, "a+[b\\", 4, api.ErrEscape, ahead...)
	isWrong(t, "a+[b(?{", 2, api.ErrClass, ahead...)
}

func TestLexAsTheReference(t *testing.T) {
	c := chance(12)
	by := map[api.Errno]int{}
	for range 40000 {
		p := c.pattern(c.below(12))
		compare(t, p)
		_, _, e := reference(p)
		by[e]++
	}
	for _, e := range []api.Errno{api.OK, api.ErrEscape, api.ErrClass, api.ErrRange, api.ErrCount, api.ErrGroup} {
		if by[e] < 100 {
			t.Errorf("only %d have the error %d", by[e], e)
		}
	}
}

// compare fails unless Lex and Tokens of p are what the reference tells.
func compare(t *testing.T, p string) {
	t.Helper()
	l, at, e := token.Lex([]byte(p))
	want, wantAt, wantE := reference(p)
	if e != wantE || at != wantAt || !slices.Equal(l, want) {
		t.Fatalf("%q: %v, error %d at %d; not %v, error %d at %d", p, l, e, at, want, wantE, wantAt)
	}
	told := slices.Collect(token.Tokens([]byte(p)))
	if e == api.OK && !slices.Equal(told, want) {
		t.Fatalf("%q: Tokens told %v, not %v", p, told, want)
	}
	if e != api.OK && !isBeginning(p, told) {
		t.Fatalf("%q: Tokens told %v", p, told)
	}
}

// isBeginning is whether the reference cuts a beginning of p into just these tokens, behind which it goes no further.
func isBeginning(p string, l []api.Token) bool {
	at := 0
	for _, t := range l {
		want, n, _, e := referenceToken(p[at:])
		want.At = at
		if e != api.OK || t != want {
			return false
		}
		at += n
	}
	if at == len(p) {
		return false
	}
	_, _, _, e := referenceToken(p[at:])
	return e != api.OK
}

func TestAllShortClasses(t *testing.T) {
	each(`]^-\ad0`, 5, func(p string) {
		compare(t, "["+p)
		compare(t, "["+p+"]")
	})
}

func TestAllShortCounts(t *testing.T) {
	each("012,}?", 5, func(p string) {
		compare(t, "{"+p)
		compare(t, "{"+p+"}")
	})
}

func TestAllShortPatterns(t *testing.T) {
	each(`\x4(?:[*{`, 5, func(p string) { compare(t, p) })
}

func TestTokensUpToAnError(t *testing.T) {
	for _, p := range []string{"\\q", "[", "[z-a]", "{", "(?"} {
		told := slices.Collect(token.Tokens([]byte("a+\\." + p)))
		if !slices.Equal(told, []api.Token{aByte(0, 'a'), aRepeat(1, 1, -1), aByte(2, '.')}) {
			t.Errorf("%q: %v", p, told)
		}
	}
	for range token.Tokens([]byte(strings.Repeat("a", api.MaxPattern+1))) {
		t.Fatal("a token of a pattern that is too long")
	}
}
