package class_test

import (
	"fmt"
	"strings"
	"testing"

	"riddle/api"
	"riddle/class"
)

// P2.3

func TestLiteralOfEachByte(t *testing.T) {
	for n := range 256 {
		b := byte(n)
		want := string(rune(n))
		switch {
		case n < 33 || n > 126:
			want = fmt.Sprintf("\\x%02x", n)
		case strings.Contains(". [ ] ( ) { } | * + ? ^ $ \\", string(b)):
			want = "\\" + string(b)
		}
		if got := class.Literal(b); got != want {
			t.Errorf("Literal(%d): %q, not %q", n, got, want)
		}
	}
}

func TestInnerOfEachByte(t *testing.T) {
	for n := range 256 {
		b := byte(n)
		want := string(rune(n))
		if n < 33 || n > 126 || strings.Contains("] [ \\ ^ -", string(b)) {
			want = fmt.Sprintf("\\x%02x", n)
		}
		if got := class.Inner(b); got != want {
			t.Errorf("Inner(%d): %q, not %q", n, got, want)
		}
	}
}

func TestLiteralAndInnerAtTheEdges(t *testing.T) {
	for _, x := range []struct {
		b              byte
		literal, inner string
	}{
		{0, `\x00`, `\x00`}, {10, `\x0a`, `\x0a`}, {32, `\x20`, `\x20`}, {33, "!", "!"},
		{126, "~", "~"}, {127, `\x7f`, `\x7f`}, {128, `\x80`, `\x80`}, {171, `\xab`, `\xab`}, {255, `\xff`, `\xff`},
		{'-', "-", `\x2d`}, {'^', `\^`, `\x5e`}, {'\\', `\\`, `\x5c`}, {'[', `\[`, `\x5b`}, {']', `\]`, `\x5d`},
		{'.', `\.`, "."}, {'(', `\(`, "("}, {'}', `\}`, "}"}, {'$', `\$`, "$"}, {'/', "/", "/"}, {'a', "a", "a"}, {'0', "0", "0"},
	} {
		if got := class.Literal(x.b); got != x.literal {
			t.Errorf("Literal(%d): %q, not %q", x.b, got, x.literal)
		}
		if got := class.Inner(x.b); got != x.inner {
			t.Errorf("Inner(%d): %q, not %q", x.b, got, x.inner)
		}
	}
}

func TestTextOfOne(t *testing.T) {
	for n := range 256 {
		if got := class.Text(raw(byte(n))); got != class.Literal(byte(n)) {
			t.Errorf("Text of %d: %q", n, got)
		}
	}
}

func TestText(t *testing.T) {
	for _, x := range []struct {
		c    api.Class
		want string
	}{
		{api.Class{}, "[]"},
		{raw('a'), "a"},
		{raw('.'), `\.`},
		{raw('-'), "-"},
		{raw(0), `\x00`},
		{raw('a', 'b'), "[ab]"},
		{raw('a', 'c'), "[ac]"},
		{raw('a', 'b', 'c'), "[a-c]"},
		{raw('a', 'b', 'x'), "[abx]"},
		{raw('a', 'b', 'c', 'e', 'f', 'h', 'x', 'y', 'z'), "[a-cefhx-z]"},
		{raw('.', '$'), "[$.]"},
		{raw('\\', ']', '^'), `[\x5c-\x5e]`},
		{raw(',', '-', '.'), "[,-.]"},
		{raw('+', ',', '-'), `[+-\x2d]`},
		{raw(',', '-'), `[,\x2d]`},
		{raw(254, 255), `[\xfe\xff]`},
		{raw(253, 254, 255), `[\xfd-\xff]`},
		{raw(0, 1), `[\x00\x01]`},
		{raw(0, 1, 2), `[\x00-\x02]`},
		{raw(0, 255), `[\x00\xff]`},
		{class.Digit(), "[0-9]"},
		{class.Word(), "[0-9A-Z_a-z]"},
		{class.Space(), `[\x09-\x0d\x20]`},
		{class.Full(), `[\x00-\xff]`},
		{class.Fold(class.Of('a')), "[Aa]"},
		{class.Not(class.Of('\n')), `[\x00-\x09\x0b-\xff]`},
	} {
		if got := class.Text(x.c); got != x.want {
			t.Errorf("Text of %v: %q, not %q", bytesOf(x.c), got, x.want)
		}
	}
}

func TestTextRunByRun(t *testing.T) {
	for _, c := range samples() {
		if len(bytesOf(c)) == 1 {
			continue
		}
		want := "["
		for _, r := range runsOf(c) {
			switch int(r.hi) - int(r.lo) {
			case 0:
				want += class.Inner(r.lo)
			case 1:
				want += class.Inner(r.lo) + class.Inner(r.hi)
			default:
				want += class.Inner(r.lo) + "-" + class.Inner(r.hi)
			}
		}
		if got := class.Text(c); got != want+"]" {
			t.Fatalf("Text of %v: %q, not %q", bytesOf(c), got, want+"]")
		}
	}
}

// P2.7

// nearby are all classes of the bytes that could be taken for each other in a text: what brackets and escapes are written with.
func nearby() []api.Class {
	l := []byte{',', '-', '.', '5', '[', '\\', ']', '^', 'a', 'b', 'c', 'd', 'x'}
	var all []api.Class
	for set := range 1 << len(l) {
		var c api.Class
		for i, b := range l {
			if set>>i&1 == 1 {
				c[b/64] |= 1 << (b % 64)
			}
		}
		all = append(all, c)
	}
	return all
}

func TestUnlikeClassesHaveUnlikeTexts(t *testing.T) {
	all := append(nearby(), samples()...)
	for lo := range 256 {
		for hi := lo; hi < 256; hi++ {
			all = append(all, class.Range(byte(lo), byte(hi)))
		}
		all = append(all, raw(byte(lo), '-', 'z'), raw(byte(lo), '-'), raw(byte(lo), '\\', 'x'))
	}
	by := map[string]api.Class{}
	for _, c := range all {
		text := class.Text(c)
		if other, is := by[text]; is && other != c {
			t.Fatalf("%v and %v have the text %q", bytesOf(c), bytesOf(other), text)
		}
		by[text] = c
	}
}
