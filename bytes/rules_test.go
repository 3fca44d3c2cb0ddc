package bytes_test

import (
	"math"
	"slices"
	"testing"

	"riddle/api"
	"riddle/bytes"
)

// calls are all calls that answer bytes of bytes.
func calls() []func([]byte) []byte {
	return []func([]byte) []byte{
		func(b []byte) []byte { return bytes.Num(b, 1) },
		func(b []byte) []byte { return bytes.Num(b, 3, 1<<24-1, 77) },
		func(b []byte) []byte { return bytes.Str(b, nil) },
		func(b []byte) []byte { return bytes.Str(b, []byte("ab")) },
		func(b []byte) []byte { return bytes.Set(b, api.Bits{}) },
		func(b []byte) []byte { return bytes.Set(b, raw(70, 1, 69)) },
		func(b []byte) []byte { return bytes.Set(b, api.Bits{N: -1}) },
		bytes.Seal,
		unsealedOf,
		func(b []byte) []byte { return bytes.Read(b).Str(9) },
	}
}

func unsealedOf(b []byte) []byte {
	x, _ := bytes.Unseal(b)
	return x
}

// given are bytes of which each call answers something.
func given() [][]byte {
	return [][]byte{nil, {}, {1}, []byte("hello"), join([]byte("abcd"), form(8, plainSum([]byte("abcd")))), {3, 0, 0, 0, 'a', 'b', 'c', 'd'}}
}

// R1

func TestNoCallPanics(t *testing.T) {
	odd := []int{math.MinInt, -1, 0, 1, 4, 8, 9, 63, 64, 65, api.MaxBits, api.MaxBits + 1, api.MaxBlob, api.MaxBlob + 1, math.MaxInt}
	for _, b := range append(texts(), given()...) {
		for _, call := range calls() {
			call(b)
		}
		for _, n := range odd {
			bytes.Num(b, n, numbers()...)
			for _, most := range []uint64{0, 1, 255, math.MaxUint64} {
				r := bytes.Read(b)
				r.Num(n, most)
				r.Str(n)
				r.Set(n)
				r.Fail(api.Errno(n))
				r.Done()
			}
			bytes.Read(b).Str(n)
			bytes.Read(b).Set(n)
		}
	}
	for _, s := range append(sets(), refused()...) {
		bytes.Set([]byte{1}, s)
	}
}

// R3

// guarded is b in a greater memory, whose other bytes are 170: what is written behind the bytes is seen, too.
func guarded(b []byte) ([]byte, []byte) {
	memory := append(slices.Clone(b), slices.Repeat([]byte{170}, 64)...)
	return memory[:len(b)], memory
}

// spoil writes to all the memory that stands behind b's beginning, as an append to b would.
func spoil(b []byte) {
	b = b[:cap(b)]
	for i := range b {
		b[i] ^= 255
	}
}

func TestBytesAreTheirOwners(t *testing.T) {
	for i, call := range calls() {
		for _, x := range given() {
			b, memory := guarded(x)
			was := slices.Clone(memory)
			answer := call(b)
			if !slices.Equal(memory, was) {
				t.Fatalf("call %d of %v: its bytes, or what stands behind them, were written to", i, x)
			}
			kept := slices.Clone(answer)
			spoil(memory)
			expect(t, "an answer as its bytes change", answer, kept)
			copy(memory, was)
			spoil(answer)
			if !slices.Equal(memory, was) {
				t.Fatalf("call %d of %v: its answer is part of its bytes", i, x)
			}
		}
	}
}

func TestOtherArgumentsAreTheirOwners(t *testing.T) {
	text, memory := guarded([]byte("ab"))
	textWas := slices.Clone(memory)
	numbersBehind := []uint64{1, 2, 3, 170}
	wordsBehind := []uint64{2, 32, 170}
	s := api.Bits{N: 70, Words: wordsBehind[:2]}
	answers := [][]byte{bytes.Str(nil, text), bytes.Num(nil, 2, numbersBehind[:3]...), bytes.Set(nil, s)}
	wants := [][]byte{{2, 0, 0, 0, 'a', 'b'}, {1, 0, 2, 0, 3, 0}, join(form(8, 2), form(8, 32))}
	if !slices.Equal(memory, textWas) || !slices.Equal(numbersBehind, []uint64{1, 2, 3, 170}) || !slices.Equal(wordsBehind, []uint64{2, 32, 170}) {
		t.Error("an argument was written to")
	}
	spoil(text)
	numbersBehind[0], wordsBehind[0] = 9, 9
	for i, want := range wants {
		expect(t, "an answer as its arguments change", answers[i], want)
	}
}

func TestSumLeavesItsBytes(t *testing.T) {
	for _, x := range given() {
		b, memory := guarded(x)
		was := slices.Clone(memory)
		bytes.Sum(b)
		if !slices.Equal(memory, was) {
			t.Fatalf("%v was written to", x)
		}
	}
}

func TestReaderKeepsItsOwn(t *testing.T) {
	s := raw(70, 1, 69)
	b, memory := guarded(join([]byte{7}, form(4, 2), []byte("ab"), form(4, 1), []byte("c"), words(s)))
	was := slices.Clone(memory)
	r := bytes.Read(b)
	spoil(memory)
	seven, ab := r.Num(1, 9), r.Str(9)
	spoil(memory)
	if seven != 7 || string(ab) != "ab" {
		t.Fatal("what the owner of its bytes does is seen:", seven, ab)
	}
	spoil(ab)
	c := r.Str(9)
	if string(c) != "c" {
		t.Fatal("what the owner of an answer does is seen:", c)
	}
	spoil(c)
	got := r.Set(70)
	if got.N != 70 || !slices.Equal(got.Words, s.Words) || r.Done() != api.OK {
		t.Fatal("what the owner of an answer does is seen:", got)
	}
	got.Words[0] = 0
	if !slices.Equal(memory, was) {
		t.Error("the reader wrote to its bytes")
	}
}

func TestReadersAreApart(t *testing.T) {
	b := []byte{1, 2, 3}
	first, second := bytes.Read(b), bytes.Read(b)
	first.Num(2, 0)
	if second.Num(1, 9) != 1 || second.Left() != 2 || first.Err() != api.ErrGreat {
		t.Error("one reader moves another one")
	}
}

// A reader's copy reads the same bytes once more: what the first one answered must not be among them.
func TestCopiesOfAReaderAreApart(t *testing.T) {
	r := bytes.Read([]byte{2, 0, 0, 0, 'a', 'b', 9})
	other := *r
	spoil(r.Str(9))
	if ab := other.Str(9); string(ab) != "ab" {
		t.Error("what the owner of an answer does is seen:", ab)
	}
	r.Fail(api.ErrArg)
	if other.Err() != api.OK || other.Left() != 1 {
		t.Error("one reader stops another one")
	}
}

// R4

func TestNilAndEmptyLists(t *testing.T) {
	for i, call := range calls() {
		if a, b := call(nil), call([]byte{}); !slices.Equal(a, b) {
			t.Errorf("call %d: %v of nil, %v of an empty list", i, a, b)
		}
	}
	expect(t, "Set", bytes.Set(nil, api.Bits{}), bytes.Set(nil, api.Bits{Words: []uint64{}}))
	if bytes.Sum(nil) != bytes.Sum([]byte{}) {
		t.Error("Sum")
	}
}

// R6

func TestSameCallsAnswerTheSame(t *testing.T) {
	for i, call := range calls() {
		for _, b := range append(texts(), given()...) {
			if !slices.Equal(call(b), call(b)) {
				t.Fatalf("call %d: another answer", i)
			}
		}
	}
}
