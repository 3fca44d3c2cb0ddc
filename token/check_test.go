package token_test

import (
	"math"
	"testing"

	"riddle/api"
	"riddle/token"
)

// P4.1

func TestCheckTakes(t *testing.T) {
	for _, x := range tokens() {
		for _, at := range []int{0, 1, api.MaxPattern, api.MaxPattern + 1, math.MaxInt} {
			x.At = at
			if e := token.Check(x); e != api.OK {
				t.Errorf("%v: %d", x, e)
			}
		}
	}
}

func TestCheckRefuses(t *testing.T) {
	for _, x := range refused() {
		if e := token.Check(x); e != api.ErrToken {
			t.Errorf("%v: %d", x, e)
		}
	}
}

func TestCheckOfEachKind(t *testing.T) {
	for kind := -3; kind < 300; kind++ {
		want := api.OK
		if kind < api.TkByte || kind > api.TkDollar || kind == api.TkClass {
			want = api.ErrToken // a class without a byte may not be
		}
		if e := token.Check(api.Token{Kind: kind}); e != want {
			t.Errorf("kind %d: %d", kind, e)
		}
	}
}

func TestCheckOfEachRepeat(t *testing.T) {
	ends := []int{math.MinInt, -1001, -2, -1, 0, 1, 2, 500, 999, 1000, 1001, 1002, math.MaxInt}
	for _, least := range ends {
		for _, most := range ends {
			want := api.ErrToken
			if least >= 0 && least <= 1000 && (most == -1 || most >= least && most <= 1000) {
				want = api.OK
			}
			for _, x := range []api.Token{aRepeat(0, least, most), aLazy(9, least, most)} {
				if e := token.Check(x); e != want {
					t.Errorf("%d to %d: %d, not %d", least, most, e, want)
				}
			}
		}
	}
}

func TestCheckOfClasses(t *testing.T) {
	for b := range 256 {
		one := raw(byte(b))
		for _, x := range []api.Token{aClass(0, one), aNot(0, one), aClass(0, without(one)), aNot(0, without(one))} {
			if e := token.Check(x); e != api.OK {
				t.Errorf("%v: %d", x, e)
			}
		}
	}
	for _, x := range []struct {
		token api.Token
		want  api.Errno
	}{{aClass(0, full), api.OK}, {aNot(0, full), api.ErrToken}, {aClass(0, api.Class{}), api.ErrToken}, {aNot(0, api.Class{}), api.ErrToken}} {
		if e := token.Check(x.token); e != x.want {
			t.Errorf("%v: %d", x.token, e)
		}
	}
}

// sameFields is Same field by field.
func sameFields(a, b api.Token) bool {
	return a.Kind == b.Kind && a.Byte == b.Byte && a.Class == b.Class && a.Not == b.Not && a.Least == b.Least && a.Most == b.Most && a.Lazy == b.Lazy
}

func TestSame(t *testing.T) {
	all := append(tokens(), refused()...)
	for _, a := range all {
		for _, b := range all {
			if got := token.Same(a, b); got != sameFields(a, b) {
				t.Fatalf("%v, %v: %t", a, b, got)
			}
		}
	}
}

func TestSameButForOneField(t *testing.T) {
	x := api.Token{Kind: 2, Byte: 3, Class: raw(4), Not: true, Least: 5, Most: 6, Lazy: true, At: 7}
	for i, change := range []func(x *api.Token){
		func(x *api.Token) { x.Kind = 1 },
		func(x *api.Token) { x.Byte = 0 },
		func(x *api.Token) { x.Class[3] = 1 },
		func(x *api.Token) { x.Not = false },
		func(x *api.Token) { x.Least = 4 },
		func(x *api.Token) { x.Most = -1 },
		func(x *api.Token) { x.Lazy = false },
	} {
		y := x
		change(&y)
		if token.Same(x, y) || token.Same(y, x) {
			t.Errorf("field %d is not looked at", i)
		}
	}
	for _, at := range []int{math.MinInt, -1, 0, 7, 8, math.MaxInt} {
		y := x
		y.At = at
		if !token.Same(x, y) || !token.Same(y, x) || !token.Same(y, y) {
			t.Errorf("not the same at %d", at)
		}
	}
}
