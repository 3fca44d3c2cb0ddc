package bytes_test

import (
	"slices"
	"testing"

	"riddle/api"
	"riddle/bytes"
)

// The sum

func TestSum(t *testing.T) {
	for _, x := range []struct {
		b    []byte
		want uint64
	}{
		{nil, 1},
		{[]byte{}, 1},
		{[]byte{5}, 6<<32 + 6},
		{[]byte{0}, 1<<32 + 1},
		{[]byte{0, 0}, 2<<32 + 1},
		{[]byte{1, 2}, 6<<32 + 4},
		{[]byte{2, 1}, 7<<32 + 4},
		{[]byte{255}, 256<<32 + 256},
	} {
		if got := bytes.Sum(x.b); got != x.want {
			t.Errorf("%v: %d, not %d", x.b, got, x.want)
		}
	}
	for _, b := range texts() {
		if got := bytes.Sum(b); got != plainSum(b) {
			t.Errorf("of %d bytes: %d, not %d", len(b), got, plainSum(b))
		}
	}
}

// Only so many bytes make the lower half of a sum go beyond the number that it is taken by.
func TestSumOfManyBytes(t *testing.T) {
	b := slices.Repeat([]byte{255}, 16843010)
	for _, x := range []struct {
		last byte
		low  uint64
	}{{249, 4294967290}, {250, 0}, {251, 1}, {255, 5}} {
		b[16843008] = x.last
		sum := bytes.Sum(b[:16843009])
		if sum != plainSum(b[:16843009]) || sum%(1<<32) != x.low {
			t.Errorf("with %d at last: %d", x.last, sum)
		}
	}
	if sum := bytes.Sum(b); sum != plainSum(b) || sum%(1<<32) != 260 {
		t.Errorf("with one more: %d", sum)
	}
}

// P3.1

func TestNum(t *testing.T) {
	expect(t, "300 in 2", bytes.Num(nil, 2, 300), []byte{44, 1})
	expect(t, "two in 4", bytes.Num([]byte{9}, 4, 1, 1<<40+2), []byte{9, 1, 0, 0, 0, 2, 0, 0, 0})
	for _, size := range sizes {
		var all []byte
		for _, x := range numbers() {
			want := form(size.meant, x)
			expect(t, "Num", bytes.Num(nil, size.given, x), want)
			expect(t, "Num behind bytes", bytes.Num([]byte{7, 8}, size.given, x), join([]byte{7, 8}, want))
			all = append(all, want...)
		}
		expect(t, "Num of many", bytes.Num([]byte{7}, size.given, numbers()...), join([]byte{7}, all))
	}
}

func TestNumOfNoNumbers(t *testing.T) {
	for _, size := range sizes {
		for _, b := range texts() {
			expect(t, "Num of no numbers", bytes.Num(b, size.given), b)
			expect(t, "Num of an empty list", bytes.Num(b, size.given, []uint64{}...), b)
		}
	}
}

func TestStr(t *testing.T) {
	expect(t, "ab", bytes.Str([]byte{9}, []byte("ab")), []byte{9, 2, 0, 0, 0, 'a', 'b'})
	expect(t, "nothing", bytes.Str(nil, nil), []byte{0, 0, 0, 0})
	expect(t, "an empty one", bytes.Str([]byte{}, []byte{}), []byte{0, 0, 0, 0})
	for _, b := range texts() {
		for _, x := range texts() {
			expect(t, "Str", bytes.Str(b, x), join(b, form(4, uint64(len(x))), x))
		}
	}
	for _, n := range []int{65535, 65536, api.MaxBlob, api.MaxBlob + 1} {
		x := slices.Repeat([]byte{3}, n)
		expect(t, "Str of many", bytes.Str([]byte{1}, x), join([]byte{1}, form(4, uint64(n)), x))
	}
}

func TestSet(t *testing.T) {
	expect(t, "1 and 69 of 70", bytes.Set([]byte{9}, raw(70, 1, 69)), []byte{9, 2, 0, 0, 0, 0, 0, 0, 0, 32, 0, 0, 0, 0, 0, 0, 0})
	for _, b := range [][]byte{nil, {}, {9}, []byte("hello")} {
		expect(t, "nothing", bytes.Set(b, api.Bits{}), b)
		for _, s := range sets() {
			expect(t, "Set", bytes.Set(b, s), join(b, words(s)))
		}
		for i, s := range refused() {
			if got := bytes.Set(b, s); !slices.Equal(got, b) {
				t.Errorf("refused %d: %v", i, got)
			}
		}
	}
}

func TestSeal(t *testing.T) {
	expect(t, "nothing", bytes.Seal(nil), []byte{1, 0, 0, 0, 0, 0, 0, 0})
	expect(t, "an empty one", bytes.Seal([]byte{}), []byte{1, 0, 0, 0, 0, 0, 0, 0})
	expect(t, "5", bytes.Seal([]byte{5}), []byte{5, 6, 0, 0, 0, 6, 0, 0, 0})
	for _, b := range texts() {
		expect(t, "Seal", bytes.Seal(b), join(b, form(8, plainSum(b))))
	}
}

// P3.2

func unsealed(t *testing.T, what string, b []byte, want []byte, err api.Errno) {
	t.Helper()
	got, e := bytes.Unseal(b)
	if e != err {
		t.Fatalf("%s: error %d, not %d", what, e, err)
	}
	if e != api.OK && got != nil {
		t.Fatalf("%s: bytes beside an error: %v", what, got)
	}
	expect(t, what, got, want)
}

func TestUnseal(t *testing.T) {
	for _, b := range texts() {
		unsealed(t, "sealed", join(b, form(8, plainSum(b))), b, api.OK)
		unsealed(t, "with another sum", join(b, form(8, plainSum(b)+1)), nil, api.ErrSum)
		unsealed(t, "with its sum the highest byte first", reversedEnd(join(b, form(8, plainSum(b)))), nil, api.ErrSum)
		unsealed(t, "with a byte more", join(b, form(8, plainSum(b)), []byte{0}), nil, api.ErrSum)
	}
}

// reversedEnd is b with its last 8 bytes the other way round.
func reversedEnd(b []byte) []byte {
	slices.Reverse(b[len(b)-8:])
	return b
}

func TestUnsealOfFewBytes(t *testing.T) {
	seal := []byte{1, 0, 0, 0, 0, 0, 0, 0}
	unsealed(t, "nil", nil, nil, api.ErrShort)
	for n := range 8 {
		unsealed(t, "the beginning of a sum", seal[:n], nil, api.ErrShort)
	}
	unsealed(t, "the sum of nothing", seal, nil, api.OK)
	unsealed(t, "8 zeros", make([]byte, 8), nil, api.ErrSum)
	unsealed(t, "7 zeros and the sum of nothing", []byte{0, 0, 0, 0, 0, 0, 0, 1}, nil, api.ErrSum)
	unsealed(t, "5 without its last byte", []byte{5, 6, 0, 0, 0, 6, 0, 0}, nil, api.ErrSum)
	unsealed(t, "5", []byte{5, 6, 0, 0, 0, 6, 0, 0, 0}, []byte{5}, api.OK)
}
