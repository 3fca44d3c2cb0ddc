package class_test

import (
	"slices"
	"testing"

	"riddle/api"
	"riddle/class"
)

// P2.1

func TestOf(t *testing.T) {
	expect(t, "Of of nothing", class.Of(), nil)
	expect(t, "Of of the least and the greatest", class.Of(255, 0), []byte{0, 255})
	expect(t, "Of of some, not rising", class.Of('x', 'a', 'b', 200), []byte{'a', 'b', 'x', 200})
	expect(t, "Of of one twice", class.Of('a', 'b', 'a', 'a'), []byte{'a', 'b'})
	for n := range 256 {
		expect(t, "Of of one", class.Of(byte(n)), []byte{byte(n)})
	}
	for _, c := range samples() {
		expect(t, "Of of a sample's bytes", class.Of(bytesOf(c)...), bytesOf(c))
	}
}

func TestRange(t *testing.T) {
	for lo := range 256 {
		for hi := range 256 {
			var want api.Class
			for n := lo; n <= hi; n++ {
				want[n/64] |= 1 << (n % 64)
			}
			if got := class.Range(byte(lo), byte(hi)); got != want {
				t.Fatalf("Range(%d, %d): %v", lo, hi, bytesOf(got))
			}
		}
	}
}

func TestNamedClasses(t *testing.T) {
	expect(t, "Full", class.Full(), those(func(byte) bool { return true }))
	expect(t, "Digit", class.Digit(), []byte("0123456789"))
	expect(t, "Word", class.Word(), []byte("0123456789ABCDEFGHIJKLMNOPQRSTUVWXYZ_abcdefghijklmnopqrstuvwxyz"))
	expect(t, "Space", class.Space(), []byte("\t\n\v\f\r "))
}

func TestHas(t *testing.T) {
	for _, c := range samples() {
		for n := range 256 {
			if got := class.Has(c, byte(n)); got != in(c, byte(n)) {
				t.Fatalf("%v: Has %d is %t", bytesOf(c), n, got)
			}
		}
	}
}

func TestCount(t *testing.T) {
	for _, c := range samples() {
		if got := class.Count(c); got != len(bytesOf(c)) {
			t.Fatalf("%v: Count %d", bytesOf(c), got)
		}
	}
	if class.Count(api.Class{}) != 0 || class.Count(class.Full()) != 256 {
		t.Error("of none, of all")
	}
}

func TestFirst(t *testing.T) {
	if b, is := class.First(api.Class{}); b != 0 || is {
		t.Errorf("of none: %d, %t", b, is)
	}
	for _, c := range samples() {
		l := bytesOf(c)
		if len(l) == 0 {
			continue
		}
		if b, is := class.First(c); b != l[0] || !is {
			t.Fatalf("%v: First %d, %t", l, b, is)
		}
	}
}

// P2.2

func TestUnion(t *testing.T) {
	expect(t, "Union of nothing", class.Union(), nil)
	expect(t, "Union of none", class.Union(api.Class{}), nil)
	expect(t, "Union of five", class.Union(raw(0), raw(255), raw(63), raw(64), raw(64, 1)), []byte{0, 1, 63, 64, 255})
	for _, a := range samples() {
		expect(t, "Union of one", class.Union(a), bytesOf(a))
		for _, b := range samples() {
			want := those(func(x byte) bool { return in(a, x) || in(b, x) })
			expect(t, "Union of two", class.Union(a, b), want)
			expect(t, "Union of three", class.Union(raw(77), b, a), bytesOf(raw(append(want, 77)...)))
		}
	}
}

func TestMeet(t *testing.T) {
	for _, a := range samples() {
		for _, b := range samples() {
			expect(t, "Meet", class.Meet(a, b), those(func(x byte) bool { return in(a, x) && in(b, x) }))
		}
	}
}

func TestNot(t *testing.T) {
	for _, c := range samples() {
		expect(t, "Not", class.Not(c), those(func(x byte) bool { return !in(c, x) }))
	}
	expect(t, "Not of all", class.Not(class.Full()), nil)
	expect(t, "Not of none", class.Not(api.Class{}), bytesOf(class.Full()))
}

const (
	small = "abcdefghijklmnopqrstuvwxyz"
	great = "ABCDEFGHIJKLMNOPQRSTUVWXYZ"
)

func TestFoldOfOne(t *testing.T) {
	for n := range 256 {
		want := raw(byte(n))
		for i := range small {
			if n == int(small[i]) || n == int(great[i]) {
				want = raw(small[i], great[i])
			}
		}
		expect(t, "Fold of one", class.Fold(raw(byte(n))), bytesOf(want))
	}
}

func TestFoldOfMany(t *testing.T) {
	expect(t, "of none", class.Fold(api.Class{}), nil)
	expect(t, "of all", class.Fold(class.Full()), bytesOf(class.Full()))
	expect(t, "of the small letters", class.Fold(raw([]byte(small)...)), []byte(great+small))
	expect(t, "of the great letters", class.Fold(raw([]byte(great)...)), []byte(great+small))
	expect(t, "of what is beside the letters", class.Fold(raw('@', '[', '`', '{')), []byte("@[`{"))
	expect(t, "of what is above 127", class.Fold(raw(193, 218, 225, 250)), []byte{193, 218, 225, 250})
	expect(t, "of letters and others", class.Fold(raw('1', 'Z', 'a', 'b', 0xe1)), []byte{'1', 'A', 'B', 'Z', 'a', 'b', 'z', 0xe1})
}

func TestAll(t *testing.T) {
	for _, c := range samples() {
		if got := slices.Collect(class.All(c)); !slices.Equal(got, bytesOf(c)) {
			t.Fatalf("%v: All %v", bytesOf(c), got)
		}
	}
}

// run is the first and the last byte of a run.
type run struct{ lo, hi byte }

func runsTold(c api.Class) []run {
	var l []run
	for lo, hi := range class.Runs(c) {
		l = append(l, run{lo, hi})
	}
	return l
}

// runsOf are c's runs: each byte makes the run longer that ends just ahead of it, or begins one.
func runsOf(c api.Class) []run {
	var l []run
	for _, b := range bytesOf(c) {
		if len(l) > 0 && l[len(l)-1].hi+1 == b {
			l[len(l)-1].hi = b
		} else {
			l = append(l, run{b, b})
		}
	}
	return l
}

func TestRuns(t *testing.T) {
	for _, c := range samples() {
		if got := runsTold(c); !slices.Equal(got, runsOf(c)) {
			t.Fatalf("%v: Runs %v", bytesOf(c), got)
		}
	}
	for _, x := range []struct {
		c    api.Class
		want []run
	}{
		{api.Class{}, nil},
		{class.Full(), []run{{0, 255}}},
		{class.Word(), []run{{'0', '9'}, {'A', 'Z'}, {'_', '_'}, {'a', 'z'}}},
		{raw(0), []run{{0, 0}}},
		{raw(255), []run{{255, 255}}},
		{raw(0, 1, 254, 255), []run{{0, 1}, {254, 255}}},
		{raw(0, 2, 253, 255), []run{{0, 0}, {2, 2}, {253, 253}, {255, 255}}},
		{raw(62, 63, 64, 66), []run{{62, 64}, {66, 66}}},
	} {
		if got := runsTold(x.c); !slices.Equal(got, x.want) {
			t.Errorf("%v: Runs %v", bytesOf(x.c), got)
		}
	}
}
