package bytes_test

import (
	"math"
	"slices"
	"testing"

	"riddle/api"
	"riddle/bits"
	"riddle/bytes"
)

// P3.3

// at fails unless r has no error, and just so many bytes left.
func at(t *testing.T, what string, r *bytes.Reader, left int) {
	t.Helper()
	done := api.OK
	if left > 0 {
		done = api.ErrExtra
	}
	if r.Err() != api.OK || r.Left() != left || r.Done() != done {
		t.Fatalf("%s: error %d, %d left, done %d", what, r.Err(), r.Left(), r.Done())
	}
	if r.Err() != api.OK || r.Left() != left {
		t.Fatalf("%s: Done changed the reader: error %d, %d left", what, r.Err(), r.Left())
	}
}

// stopped fails unless r has the error e, and all calls of it answer so and leave it.
func stopped(t *testing.T, what string, r *bytes.Reader, e api.Errno) {
	t.Helper()
	for range 2 {
		if r.Err() != e || r.Done() != e || r.Left() != 0 {
			t.Fatalf("%s: error %d, done %d, %d left; not %d", what, r.Err(), r.Done(), r.Left(), e)
		}
		silent(t, what, r)
		for _, other := range []api.Errno{api.OK, api.ErrArg, api.ErrShort, api.ErrGreat, -1} {
			r.Fail(other)
		}
	}
}

// silent fails unless all that r reads are zero values.
func silent(t *testing.T, what string, r *bytes.Reader) {
	t.Helper()
	for _, size := range sizes {
		if x := r.Num(size.given, math.MaxUint64); x != 0 {
			t.Fatalf("%s: Num %d", what, x)
		}
	}
	for _, n := range []int{math.MinInt, -1, 0, 1, 64, 70, api.MaxBits, api.MaxBits + 1, math.MaxInt} {
		if x := r.Str(n); x != nil {
			t.Fatalf("%s: Str %v", what, x)
		}
		if s := r.Set(n); s.N != 0 || s.Words != nil {
			t.Fatalf("%s: Set %v", what, s)
		}
	}
}

func TestReaderOfNothing(t *testing.T) {
	for _, b := range [][]byte{nil, {}} {
		at(t, "nothing", bytes.Read(b), 0)
		r := bytes.Read(b)
		if r.Num(1, 9) != 0 {
			t.Error("a number of nothing")
		}
		stopped(t, "Num", r, api.ErrShort)
		r = bytes.Read(b)
		if r.Str(0) != nil {
			t.Error("a string of nothing")
		}
		stopped(t, "Str", r, api.ErrShort)
	}
}

func TestReaderNum(t *testing.T) {
	for _, size := range sizes {
		for _, x := range numbers() {
			b := form(size.meant, x)
			x = cut(x, size.meant)
			for _, more := range []int{0, 1, 5} {
				r := bytes.Read(join(b, make([]byte, more)))
				if got := r.Num(size.given, x); got != x {
					t.Fatalf("size %d: %d, not %d", size.given, got, x)
				}
				at(t, "Num", r, more)
			}
			if x == 0 {
				continue
			}
			r := bytes.Read(join(b, b))
			if got := r.Num(size.given, x-1); got != 0 {
				t.Fatalf("size %d: %d, above what it may be", size.given, got)
			}
			stopped(t, "one above", r, api.ErrGreat)
		}
	}
}

// cut is what the size lowest bytes of x are.
func cut(x uint64, size int) uint64 {
	if size < 8 {
		x %= 1 << (8 * size)
	}
	return x
}

func TestReaderNumOfFewBytes(t *testing.T) {
	for _, size := range sizes {
		for n := range size.meant {
			r := bytes.Read(slices.Repeat([]byte{255}, n))
			if got := r.Num(size.given, 0); got != 0 {
				t.Fatalf("size %d of %d bytes: %d", size.given, n, got)
			}
			// The bytes that are there would be too great: that they are too few comes first.
			stopped(t, "few bytes", r, api.ErrShort)
		}
		r := bytes.Read(make([]byte, 2*size.meant-1))
		r.Num(size.given, 0)
		at(t, "one number", r, size.meant-1)
		r.Num(size.given, 0)
		stopped(t, "one byte short", r, api.ErrShort)
	}
}

func TestReaderStr(t *testing.T) {
	for _, x := range texts() {
		b := join(form(4, uint64(len(x))), x)
		for _, most := range []int{len(x), len(x) + 1, api.MaxBlob, api.MaxBlob + 1, math.MaxInt} {
			r := bytes.Read(join(b, []byte{1, 2}))
			expect(t, "Str", r.Str(most), x)
			at(t, "Str", r, 2)
		}
		if len(x) > 0 {
			r := bytes.Read(b)
			if got := r.Str(len(x) - 1); got != nil {
				t.Fatalf("above most: %v", got)
			}
			stopped(t, "above most", r, api.ErrGreat)
			r = bytes.Read(b[:len(b)-1])
			if got := r.Str(len(x)); got != nil {
				t.Fatalf("one byte short: %v", got)
			}
			stopped(t, "one byte short", r, api.ErrShort)
		}
	}
}

func TestReaderStrBelowNought(t *testing.T) {
	for _, most := range []int{math.MinInt, -1 << 32, -1, 0} {
		r := bytes.Read([]byte{0, 0, 0, 0, 7})
		expect(t, "of none", r.Str(most), nil)
		at(t, "of none", r, 1)
		r = bytes.Read([]byte{1, 0, 0, 0, 7})
		if got := r.Str(most); got != nil {
			t.Errorf("most %d: %v", most, got)
		}
		stopped(t, "of one byte", r, api.ErrGreat)
	}
}

func TestReaderStrOfMaxBlob(t *testing.T) {
	x := slices.Repeat([]byte{3}, api.MaxBlob+1)
	for _, most := range []int{api.MaxBlob, api.MaxBlob + 1, math.MaxInt} {
		r := bytes.Read(join(form(4, api.MaxBlob), x))
		expect(t, "MaxBlob bytes", r.Str(most), x[:api.MaxBlob])
		at(t, "MaxBlob bytes", r, 1)
		r = bytes.Read(join(form(4, api.MaxBlob+1), x))
		if got := r.Str(most); got != nil {
			t.Errorf("most %d: %d bytes", most, len(got))
		}
		stopped(t, "one more", r, api.ErrGreat)
	}
	r := bytes.Read(join(form(4, api.MaxBlob), x))
	if got := r.Str(api.MaxBlob - 1); got != nil {
		t.Errorf("one above most: %d bytes", len(got))
	}
	stopped(t, "one above most", r, api.ErrGreat)
}

func TestReaderStrOfFewBytes(t *testing.T) {
	for n := range 4 {
		r := bytes.Read(slices.Repeat([]byte{255}, n))
		if got := r.Str(9); got != nil {
			t.Errorf("a length of %d bytes: %v", n, got)
		}
		stopped(t, "a length cut off", r, api.ErrShort)
	}
	r := bytes.Read([]byte{5, 0, 0, 0, 1})
	if got := r.Str(9); got != nil {
		t.Error(got)
	}
	stopped(t, "five bytes, of which one is there", r, api.ErrShort)
	r = bytes.Read([]byte{255, 255, 255, 255})
	if got := r.Str(math.MaxInt); got != nil {
		t.Error(got)
	}
	stopped(t, "too great, and too few bytes", r, api.ErrGreat)
}

func TestReaderSet(t *testing.T) {
	for _, s := range sets() {
		r := bytes.Read(join(words(s), []byte{1, 2, 3}))
		got := r.Set(s.N)
		if got.N != s.N || !slices.Equal(got.Words, s.Words) || bits.Check(got) != api.OK {
			t.Fatalf("%v, not %v", got, s)
		}
		at(t, "Set", r, 3)
		if s.N == 0 {
			continue
		}
		r = bytes.Read(words(s)[1:])
		if got = r.Set(s.N); got.N != 0 || got.Words != nil {
			t.Fatalf("one byte short: %v", got)
		}
		stopped(t, "one byte short", r, api.ErrShort)
	}
}

func TestReaderSetOfOtherN(t *testing.T) {
	for _, n := range []int{math.MinInt, -64, -1, api.MaxBits + 1, api.MaxBits + 64, math.MaxInt} {
		for _, b := range [][]byte{nil, make([]byte, 8), make([]byte, api.MaxBits)} {
			r := bytes.Read(b)
			if got := r.Set(n); got.N != 0 || got.Words != nil {
				t.Errorf("N %d: %v", n, got)
			}
			stopped(t, "another N", r, api.ErrGreat)
		}
	}
}

func TestReaderSetOfGreatNumbers(t *testing.T) {
	for _, n := range []int{1, 2, 3, 63, 65, 70, 127, 129, api.MaxBits - 1} {
		for x := n; x%64 != 0; x++ {
			s := full(n)
			s.Words[x/64] |= 1 << (x % 64)
			r := bytes.Read(join(words(s), []byte{1}))
			if got := r.Set(n); got.N != 0 || got.Words != nil {
				t.Fatalf("%d of N %d: %v", x, n, got)
			}
			stopped(t, "a number not below n", r, api.ErrGreat)
		}
	}
	r := bytes.Read([]byte{255, 255, 255, 255, 255, 255, 255, 255, 255})
	r.Set(65)
	stopped(t, "a word and a byte for 65", r, api.ErrShort)
}

func TestReaderGoesFromTheLeft(t *testing.T) {
	s := raw(70, 1, 69)
	b := join(form(4, 1), form(4, 2), form(4, 2), []byte("ab"), words(s), []byte{255}, form(8, 1<<40))
	r := bytes.Read(b)
	if r.Num(4, 9) != 1 || r.Num(4, 2) != 2 || string(r.Str(2)) != "ab" {
		t.Fatal(r.Err())
	}
	at(t, "ahead of the set", r, 25)
	if got := r.Set(70); !bits.Same(got, s) {
		t.Fatal(got)
	}
	if r.Set(0).N != 0 || r.Num(0, 255) != 255 {
		t.Fatal(r.Err())
	}
	at(t, "ahead of the last one", r, 8)
	if r.Num(9, math.MaxUint64) != 1<<40 {
		t.Fatal(r.Err())
	}
	at(t, "at the end", r, 0)
	r.Num(1, 9)
	stopped(t, "behind the end", r, api.ErrShort)
}

func TestFirstErrorStays(t *testing.T) {
	r := bytes.Read([]byte{200, 1})
	r.Num(1, 199)
	r.Num(8, 0)
	r.Fail(api.ErrArg)
	stopped(t, "ErrGreat, then others", r, api.ErrGreat)
	r = bytes.Read([]byte{200, 1})
	r.Num(3, 0)
	r.Num(1, 0)
	r.Set(-1)
	stopped(t, "ErrShort, then others", r, api.ErrShort)
	r = bytes.Read([]byte{200, 1})
	r.Fail(api.ErrTwice)
	r.Set(-1)
	stopped(t, "ErrTwice, then others", r, api.ErrTwice)
}

func TestFail(t *testing.T) {
	for _, e := range []api.Errno{api.ErrArg, api.ErrMade, api.ErrShort, api.ErrExtra, api.ErrSum, 999, -1, math.MaxInt, math.MinInt} {
		for _, b := range [][]byte{nil, {1, 2}} {
			r := bytes.Read(b)
			r.Fail(api.OK)
			at(t, "Fail of OK", r, len(b))
			r.Fail(e)
			stopped(t, "Fail", r, e)
		}
	}
	r := bytes.Read([]byte{1, 2})
	r.Num(1, 9)
	r.Fail(api.OK)
	at(t, "Fail of OK", r, 1)
	if r.Num(1, 9) != 2 {
		t.Error("it goes on behind Fail of OK")
	}
}

// ErrExtra is what Done says, not an error of the reader: it goes on.
func TestDoneLetsTheReaderGoOn(t *testing.T) {
	r := bytes.Read([]byte{1, 2})
	for left := 2; left > 0; left-- {
		if r.Done() != api.ErrExtra || r.Err() != api.OK || r.Left() != left {
			t.Fatal(r.Done(), r.Err(), r.Left())
		}
		r.Num(1, 9)
	}
	at(t, "all is read", r, 0)
}

// R5

func TestReaderThatNoCallMade(t *testing.T) {
	for _, r := range []*bytes.Reader{nil, {}, new(bytes.Reader)} {
		stopped(t, "no call made it", r, api.ErrMade)
		r.Fail(api.ErrArg)
		stopped(t, "no call made it, and it fails", r, api.ErrMade)
	}
}
