package bits_test

import (
	"math"
	"slices"
	"testing"

	"riddle/api"
	"riddle/bits"
)

func TestErrorsNumbers(t *testing.T) {
	numbers := []api.Errno{api.OK, api.ErrArg, api.ErrMade, api.ErrLong, api.ErrNone, api.ErrTwice, api.ErrFull, api.ErrPast}
	for n, e := range numbers {
		if int(e) != n {
			t.Errorf("error %d is %d", n, e)
		}
	}
	if api.ErrBits != 10 || api.MaxBits != 8192 {
		t.Error(api.ErrBits, api.MaxBits)
	}
}

// P1.1

func TestNew(t *testing.T) {
	expect(t, "the chapter's", made(t, 70, 3, 69, 70), 70, []int{3, 69})
	expect(t, "no numbers", made(t, 70), 70, nil)
	expect(t, "twice, in no order", made(t, 130, 129, 64, 0, 64, 129), 130, []int{0, 64, 129})
	for _, n := range edges {
		want := those(n, func(x int) bool { return slices.Contains(oddNumbers, x) })
		expect(t, "odd numbers", made(t, n, oddNumbers...), n, want)
		for _, b := range samplesOf(n) {
			expect(t, "a sample", made(t, n, numbers(b)...), n, numbers(b))
		}
	}
}

func TestNewRefuses(t *testing.T) {
	for _, n := range []int{math.MinInt, -64, -1, api.MaxBits + 1, api.MaxBits + 64, math.MaxInt} {
		b, e := bits.New(n, 0, 1)
		if e != api.ErrArg || b.N != 0 || len(b.Words) != 0 {
			t.Errorf("New(%d): %v, %d", n, b, e)
		}
	}
}

func TestCheck(t *testing.T) {
	for _, b := range samples() {
		if e := bits.Check(b); e != api.OK {
			t.Errorf("N %d with %v: %d", b.N, numbers(b), e)
		}
	}
	for i, b := range refused() {
		if e := bits.Check(b); e != api.ErrBits {
			t.Errorf("refused %d, N %d: %d", i, b.N, e)
		}
	}
}

func TestCheckEachBitBeyond(t *testing.T) {
	for _, n := range edges {
		for x := n; x < (n+63)/64*64; x++ {
			b := raw(n)
			b.Words[x/64] |= 1 << (x % 64)
			if e := bits.Check(b); e != api.ErrBits {
				t.Errorf("N %d, bit %d: %d", n, x, e)
			}
		}
	}
}

func TestRefusedAreEmptyAlone(t *testing.T) {
	for _, b := range refused() {
		expect(t, "With", bits.With(b, 0), 0, nil)
		expect(t, "Without", bits.Without(b, 0), 0, nil)
		expect(t, "Shift", bits.Shift(b, 0), 0, nil)
		expect(t, "Shift by -1", bits.Shift(b, -1), 0, nil)
		if bits.Count(b) != 0 || len(slices.Collect(bits.All(b))) != 0 {
			t.Errorf("N %d has numbers", b.N)
		}
		if n, ok := bits.Last(b); n != 0 || ok {
			t.Errorf("Last, N %d: %d", b.N, n)
		}
		for _, n := range oddNumbers {
			if bits.Has(b, n) {
				t.Errorf("N %d has %d", b.N, n)
			}
			if x, ok := bits.First(b, n); x != 0 || ok {
				t.Errorf("First, N %d from %d: %d", b.N, n, x)
			}
		}
	}
}

func TestRefusedAreEmptyBesideOthers(t *testing.T) {
	for _, b := range refused() {
		for _, a := range samplesOf(130) {
			expect(t, "Or", bits.Or(a, b), 130, numbers(a))
			expect(t, "And", bits.And(a, b), 130, nil)
			expect(t, "Not", bits.Not(a, b), 130, numbers(a))
			expect(t, "Or, the other way", bits.Or(b, a), 0, nil)
			expect(t, "And, the other way", bits.And(b, a), 0, nil)
			expect(t, "Not, the other way", bits.Not(b, a), 0, nil)
			if bits.Meet(a, b) || bits.Meet(b, a) || bits.Same(a, b) || bits.Same(b, a) {
				t.Errorf("N %d meets or is N 130", b.N)
			}
		}
		for _, c := range refused() {
			if !bits.Same(b, c) || bits.Meet(b, c) {
				t.Errorf("N %d, N %d: not both empty", b.N, c.N)
			}
		}
		if !bits.Same(b, raw(0)) || !bits.Same(raw(0), b) {
			t.Errorf("N %d is not N 0", b.N)
		}
	}
}

// P1.2

func TestHas(t *testing.T) {
	for _, b := range samples() {
		l := numbers(b)
		for _, n := range append(slices.Clone(oddNumbers), l...) {
			if _, want := slices.BinarySearch(l, n); bits.Has(b, n) != want {
				t.Fatalf("N %d with %v: %d", b.N, l, n)
			}
		}
	}
}

func TestWithAndWithout(t *testing.T) {
	for _, b := range samples() {
		l := numbers(b)
		for _, n := range oddNumbers {
			with, without := l, slices.DeleteFunc(slices.Clone(l), func(x int) bool { return x == n })
			if n >= 0 && n < b.N && !in(b, n) {
				with = append(slices.Clone(l), n)
			}
			expect(t, "With", bits.With(b, n), b.N, with)
			expect(t, "Without", bits.Without(b, n), b.N, without)
		}
	}
}

func TestOrAndNot(t *testing.T) {
	for _, a := range smallSamples() {
		inA := truths(a)
		for _, b := range smallSamples() {
			inB := truths(b)
			expect(t, "Or", bits.Or(a, b), a.N, those(a.N, func(x int) bool { return inA[x] || inB[x] }))
			expect(t, "And", bits.And(a, b), a.N, those(a.N, func(x int) bool { return inA[x] && inB[x] }))
			expect(t, "Not", bits.Not(a, b), a.N, those(a.N, func(x int) bool { return inA[x] && !inB[x] }))
		}
	}
}

func TestOrAndNotOfTheGreatest(t *testing.T) {
	small, great := made(t, 70, 3, 69), made(t, api.MaxBits, 3, 4, 69, 70, 127, 8191)
	expect(t, "Or of a small N", bits.Or(small, great), 70, []int{3, 4, 69})
	expect(t, "And of a small N", bits.And(small, great), 70, []int{3, 69})
	expect(t, "Not of a small N", bits.Not(small, great), 70, nil)
	expect(t, "Or of a great N", bits.Or(great, small), api.MaxBits, numbers(great))
	expect(t, "And of a great N", bits.And(great, small), api.MaxBits, []int{3, 69})
	expect(t, "Not of a great N", bits.Not(great, small), api.MaxBits, []int{4, 70, 127, 8191})
}

// truths are of each number below 256 whether b has it.
func truths(b api.Bits) [256]bool {
	var has [256]bool
	for _, n := range numbers(b) {
		has[n] = true
	}
	return has
}

// P1.3

func TestShift(t *testing.T) {
	b := made(t, 70, 3, 69, 70)
	expect(t, "by 1", bits.Shift(b, 1), 70, []int{4})
	expect(t, "by -3", bits.Shift(b, -3), 70, []int{0, 66})
	for _, b := range smallSamples() {
		for k := -b.N - 2; k <= b.N+2; k++ {
			expect(t, "Shift", bits.Shift(b, k), b.N, moved(b, k))
		}
	}
	for _, b := range samples() {
		for _, k := range oddNumbers {
			expect(t, "Shift by an odd number", bits.Shift(b, k), b.N, moved(b, k))
		}
	}
}

// moved are the numbers k more, of those that are from 0 to N - 1 then.
func moved(b api.Bits, k int) []int {
	var l []int
	if k <= -b.N || k >= b.N {
		return l
	}
	for _, n := range numbers(b) {
		if n+k >= 0 && n+k < b.N {
			l = append(l, n+k)
		}
	}
	return l
}

func TestFirst(t *testing.T) {
	for _, b := range samples() {
		l := numbers(b)
		for _, from := range append(slices.Clone(oddNumbers), l...) {
			want, is := 0, false
			if i, _ := slices.BinarySearch(l, from); i < len(l) {
				want, is = l[i], true
			}
			if n, ok := bits.First(b, from); n != want || ok != is {
				t.Fatalf("N %d with %v, from %d: %d, %t", b.N, l, from, n, ok)
			}
		}
	}
}

func TestLastCountAll(t *testing.T) {
	for _, b := range samples() {
		l := numbers(b)
		want := 0
		if len(l) > 0 {
			want = l[len(l)-1]
		}
		if n, ok := bits.Last(b); n != want || ok != (len(l) > 0) {
			t.Fatalf("N %d with %v: Last %d, %t", b.N, l, n, ok)
		}
		if n := bits.Count(b); n != len(l) {
			t.Fatalf("N %d with %v: Count %d", b.N, l, n)
		}
		if all := slices.Collect(bits.All(b)); !slices.Equal(all, l) {
			t.Fatalf("N %d with %v: All %v", b.N, l, all)
		}
	}
}

func TestMeetAndSame(t *testing.T) {
	for _, a := range smallSamples() {
		inA := truths(a)
		for _, b := range smallSamples() {
			inB := truths(b)
			both := those(256, func(x int) bool { return inA[x] && inB[x] })
			if got := bits.Meet(a, b); got != (len(both) > 0) {
				t.Fatalf("N %d with %v, N %d with %v: Meet %t", a.N, numbers(a), b.N, numbers(b), got)
			}
			if got := bits.Same(a, b); got != (a.N == b.N && inA == inB) {
				t.Fatalf("N %d with %v, N %d with %v: Same %t", a.N, numbers(a), b.N, numbers(b), got)
			}
		}
	}
	a, b := made(t, api.MaxBits, 8191), made(t, api.MaxBits, 0, 8191)
	if !bits.Meet(a, b) || bits.Same(a, b) || !bits.Same(b, bits.With(a, 0)) {
		t.Error("of the greatest N")
	}
	if bits.Same(made(t, 65, 3), made(t, 70, 3)) {
		t.Error("another N is the same")
	}
}

// P1.4

func TestLawsOfSets(t *testing.T) {
	for _, n := range []int{0, 1, 64, 65, 130} {
		for _, a := range samplesOf(n) {
			for _, b := range samplesOf(n) {
				lawsOfTwo(t, a, b)
				for _, c := range samplesOf(n) {
					lawsOfThree(t, a, b, c)
				}
			}
		}
	}
	for _, a := range samplesOf(api.MaxBits) {
		for _, b := range samplesOf(api.MaxBits) {
			lawsOfTwo(t, a, b)
			lawsOfThree(t, a, b, bits.Shift(b, 100))
		}
	}
}

func lawsOfTwo(t *testing.T, a, b api.Bits) {
	t.Helper()
	same(t, "Or is commutative", bits.Or(a, b), bits.Or(b, a))
	same(t, "And is commutative", bits.And(a, b), bits.And(b, a))
	left, both := bits.Not(a, b), bits.And(a, b)
	same(t, "Not and And are together a", bits.Or(left, both), a)
	if bits.Meet(left, both) || bits.Count(bits.And(left, both)) != 0 {
		t.Fatal("Not and And are apart")
	}
	if bits.Count(left)+bits.Count(both) != bits.Count(a) {
		t.Fatal("Not and And are together as many as a")
	}
}

func lawsOfThree(t *testing.T, a, b, c api.Bits) {
	t.Helper()
	same(t, "Or is associative", bits.Or(a, bits.Or(b, c)), bits.Or(bits.Or(a, b), c))
	same(t, "And is associative", bits.And(a, bits.And(b, c)), bits.And(bits.And(a, b), c))
	same(t, "And distributes", bits.And(a, bits.Or(b, c)), bits.Or(bits.And(a, b), bits.And(a, c)))
	same(t, "Or distributes", bits.Or(a, bits.And(b, c)), bits.And(bits.Or(a, b), bits.Or(a, c)))
}

func same(t *testing.T, what string, a, b api.Bits) {
	t.Helper()
	if bits.Check(a) != api.OK || bits.Check(b) != api.OK || !bits.Same(a, b) {
		t.Fatalf("%s: N %d with %v, N %d with %v", what, a.N, numbers(a), b.N, numbers(b))
	}
}

// P1.5

func TestOverAndBack(t *testing.T) {
	for _, b := range samples() {
		for _, k := range oddNumbers {
			if k == math.MinInt { // it has no -k
				continue
			}
			var stayed []int
			for _, n := range numbers(b) {
				if k > -b.N && k < b.N && n+k >= 0 && n+k < b.N {
					stayed = append(stayed, n)
				}
			}
			expect(t, "over and back", bits.Shift(bits.Shift(b, k), -k), b.N, stayed)
		}
	}
}

func TestFirstGoesThroughAll(t *testing.T) {
	for _, b := range samples() {
		at := 0
		for n := range bits.All(b) {
			x, ok := bits.First(b, at)
			if !ok || x != n {
				t.Fatalf("N %d, from %d: %d, %t, not %d", b.N, at, x, ok, n)
			}
			at = x + 1
		}
		if x, ok := bits.First(b, at); ok || x != 0 {
			t.Fatalf("N %d, from %d: %d behind all", b.N, at, x)
		}
	}
}
