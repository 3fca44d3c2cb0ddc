package literal_test

import (
	"math"
	"slices"
	"strings"
	"testing"

	"riddle/api"
	"riddle/literal"
)

// P15.2

func TestCheckOfEachLength(t *testing.T) {
	if api.ErrLiteral != 150 || api.MinLiteral != 2 || api.MaxLiteral != 16 {
		t.Error(api.ErrLiteral, api.MinLiteral, api.MaxLiteral)
	}
	for many := range 70 {
		want := api.OK
		if many < 2 || many > 16 {
			want = api.ErrLiteral
		}
		for _, x := range []api.Letter{{Byte: 'a'}, {Byte: 'a', Fold: true}, {Byte: 'z', Fold: true}, {Byte: 'A'}, {}, {Byte: 255}, {Byte: '0'}} {
			if e := literal.Check(slices.Repeat(api.Literal{x}, many)); e != want {
				t.Errorf("%d of %v: %d", many, x, e)
			}
		}
	}
	if e := literal.Check(make(api.Literal, 1<<20)); e != api.ErrLiteral {
		t.Error(e)
	}
}

func TestCheckOfEachLetter(t *testing.T) {
	for _, x := range allLetters() {
		want := api.OK
		if x.Fold && (x.Byte < 'a' || x.Byte > 'z') {
			want = api.ErrLiteral
		}
		for many := 2; many <= 16; many++ {
			for _, at := range []int{0, many / 2, many - 1} {
				l := slices.Repeat(api.Literal{{Byte: 'q', Fold: true}}, many)
				l[at] = x
				if e := literal.Check(l); e != want {
					t.Fatalf("%v at %d of %d: %d", x, at, many, e)
				}
			}
		}
		// Alone, and of more than there may be, none may be.
		if a, b := literal.Check(api.Literal{x}), literal.Check(slices.Repeat(api.Literal{x}, 17)); a != api.ErrLiteral || b != api.ErrLiteral {
			t.Errorf("%v: %d, %d", x, a, b)
		}
	}
}

func TestCheckByHand(t *testing.T) {
	for _, x := range []struct {
		l    string
		want api.Errno
	}{
		{"", api.ErrLiteral},
		{"a", api.ErrLiteral},
		{"~a", api.ErrLiteral},
		{"ab", api.OK},
		{"~a~b", api.OK},
		{"~ab", api.OK},
		{"AB", api.OK},
		{"~AB", api.ErrLiteral},
		{"A~B", api.ErrLiteral},
		{"~a~Z", api.ErrLiteral},
		{"~a~1", api.ErrLiteral},
		{"~`a", api.ErrLiteral},
		{"~{a", api.ErrLiteral},
		{"~\x00a", api.ErrLiteral},
		{"a~\xff", api.ErrLiteral},
		{"\x00\xff", api.OK},
		{"abcdefghijklmnop", api.OK},
		{"abcdefghijklmnopq", api.ErrLiteral},
		{"abcdefghijklmno~P", api.ErrLiteral},
		{"abcdefghijklmno~p", api.OK},
	} {
		if e := literal.Check(lit(x.l)); e != x.want {
			t.Errorf("%q: %d", x.l, e)
		}
	}
}

// far are places that no text has.
var far = []int{math.MinInt, math.MinInt + 1, -1 << 40, -100, -2, -1, 100, 1 << 40, math.MaxInt - 1, math.MaxInt}

func TestAtByHand(t *testing.T) {
	for _, x := range []struct {
		l, w string
		want []int
	}{
		{"ab", "ab", []int{0}},
		{"ab", "xab", []int{1}},
		{"ab", "abab", []int{0, 2}},
		{"ab", "aB", nil},
		{"ab", "Ab", nil},
		{"~ab", "xAbab", []int{1, 3}},
		{"~ab", "xAB", nil},
		{"a~b", "aBABab", []int{0, 4}},
		{"~a~b", "aBABab", []int{0, 2, 4}},
		{"~Ab", "abAb", []int{2}},
		{"~1~2", "12\x11\x12", []int{0}},
		{"~`~{", "`{@[", []int{0}},
		{"ab", "a", nil},
		{"ab", "", nil},
		{"a", "aaa", []int{0, 1, 2}},
		{"aa", "aaa", []int{0, 1}},
		{"aaa", "aaa", []int{0}},
		{"aaaa", "aaa", nil},
		{"\x00\xff", "\xff\x00\xff\x00", []int{1}},
		{"", "", []int{0}},
		{"", "ab", []int{0, 1, 2}},
	} {
		l, w := lit(x.l), []byte(x.w)
		for at := -3; at < len(w)+4; at++ {
			if literal.At(l, w, at) != slices.Contains(x.want, at) {
				t.Errorf("%q, %q, %d: %t", x.l, x.w, at, !slices.Contains(x.want, at))
			}
		}
		for _, at := range far {
			if literal.At(l, w, at) {
				t.Errorf("%q, %q, %d", x.l, x.w, at)
			}
		}
		if got := slices.Collect(literal.Places(l, w)); !slices.Equal(got, x.want) {
			t.Errorf("Places of %q, %q: %v", x.l, x.w, got)
		}
	}
}

// At the ends of what fits.
func TestAtTheEnds(t *testing.T) {
	for many := range 20 {
		for length := range 40 {
			l, w := slices.Repeat(lit("a"), many), []byte(strings.Repeat("a", length))
			for at := -2; at < length+3; at++ {
				want := at >= 0 && at <= length-many
				if literal.At(l, w, at) != want {
					t.Fatalf("%d letters, %d bytes, at %d: %t", many, length, at, !want)
				}
			}
			for _, at := range far {
				if literal.At(l, w, at) {
					t.Fatalf("%d letters, %d bytes, at %d", many, length, at)
				}
			}
		}
	}
	// What stands behind the bytes in memory is nothing.
	w := []byte("xxaab")
	if literal.At(lit("ab"), w[:4], 3) || literal.At(lit("aab"), w[:4], 2) || literal.At(nil, w[:4], 5) || !literal.At(nil, w[:4], 4) {
		t.Error("behind the bytes")
	}
}

// Each letter is held against the byte at its place, and against no other.
func TestAtOfEachLetter(t *testing.T) {
	word := "abcdefghijklmnopqrstuvwx"
	for many := 1; many <= len(word); many++ {
		for _, fold := range []bool{false, true} {
			l := lit(word[:many])
			for k := range l {
				l[k].Fold = fold
			}
			for _, at := range []int{0, 1, 7} {
				w := []byte(strings.Repeat(".", at) + word[:many] + "..")
				if !literal.At(l, w, at) || literal.At(l, w, at+1) || literal.At(l, w, at-1) {
					t.Fatal(many, fold, at)
				}
				for k := range many {
					was := w[at+k]
					for _, b := range []byte{'.', 0, 255, was - 32, was + 1} {
						w[at+k] = b
						if literal.At(l, w, at) != (fold && b == was-32) {
							t.Fatalf("%s, %q, %d: %t", show(l), w, at, !(fold && b == was-32))
						}
					}
					w[at+k] = was
				}
			}
		}
	}
}

func TestAtOfAllSmall(t *testing.T) {
	stood := 0
	eachLiteral(lit("a~aA~Ab"), 3, func(l api.Literal) {
		eachText("aAb", 4, func(w []byte) {
			for at := -1; at < len(w)+2; at++ {
				want := standsAt(l, w, at)
				if literal.At(l, w, at) != want {
					t.Fatalf("%s, %q, %d: %t", show(l), w, at, !want)
				}
				if want {
					stood++
				}
			}
		})
	})
	if stood < 4000 {
		t.Error(stood)
	}
}

func TestAtOfEachByte(t *testing.T) {
	for _, x := range allLetters() {
		for n := range 256 {
			if literal.At(api.Literal{x}, []byte{'x', byte(n)}, 1) != is(x, byte(n)) {
				t.Fatalf("%v, %d", x, n)
			}
		}
	}
}

func TestSame(t *testing.T) {
	all := []api.Literal{nil, lit("a"), lit("~a"), lit("A"), lit("~A"), lit("ab"), lit("~ab"), lit("a~b"), lit("ba"), lit("aa"), lit("abc"), lit("aba"), lit("\x00"), lit("\x00\x00"), lit("~\x00"), lit(strings.Repeat("a", 16)), lit(strings.Repeat("a", 17)), lit(strings.Repeat("~a", 16)), lit(strings.Repeat("a", 15) + "b"), lit("b" + strings.Repeat("a", 15))}
	for i, a := range all {
		for k, b := range all {
			if literal.Same(a, b) != (i == k) || literal.Same(a, slices.Clone(b)) != (i == k) {
				t.Errorf("%s, %s: %t", show(a), show(b), i != k)
			}
		}
	}
	if !literal.Same(nil, api.Literal{}) || !literal.Same(api.Literal{}, nil) || !literal.Same(nil, nil) {
		t.Error("of no letters")
	}
}

func TestSameOfAllSmall(t *testing.T) {
	var all []api.Literal
	eachLiteral(lit("a~aAb"), 3, func(l api.Literal) { all = append(all, l) })
	for i, a := range all {
		for k, b := range all {
			if literal.Same(a, b) != (i == k) {
				t.Fatalf("%s, %s: %t", show(a), show(b), i != k)
			}
		}
	}
}
