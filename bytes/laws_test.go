package bytes_test

import (
	"math"
	"slices"
	"testing"

	"riddle/api"
	"riddle/bytes"
)

// part is a number, a byte string or a set, with what its call takes.
type part struct {
	kind   int
	size   int
	number uint64
	text   []byte
	set    api.Bits
}

const (
	ofNumber = iota
	ofText
	ofSet
	kinds
)

// somePart is a part of no order; a number may be greater than its size holds.
func somePart(c *chance) part {
	p := part{kind: c.below(kinds)}
	switch p.kind {
	case ofNumber:
		p.size, p.number = c.below(12)-1, c.next()>>c.below(64)
	case ofText:
		p.text = c.bytes(c.below(20))
	case ofSet:
		p.set = c.set(c.below(200))
	}
	return p
}

func write(b []byte, p part) []byte {
	switch p.kind {
	case ofNumber:
		return bytes.Num(b, p.size, p.number)
	case ofText:
		return bytes.Str(b, p.text)
	}
	return bytes.Set(b, p.set)
}

// read is the next part, of the kind and size that p has.
func read(r *bytes.Reader, p part) part {
	got := part{kind: p.kind, size: p.size}
	switch p.kind {
	case ofNumber:
		got.number = r.Num(p.size, math.MaxUint64)
	case ofText:
		got.text = r.Str(api.MaxBlob)
	case ofSet:
		got.set = r.Set(p.set.N)
	}
	return got
}

func samePart(a, b part) bool {
	return a.number == b.number && slices.Equal(a.text, b.text) && a.set.N == b.set.N && slices.Equal(a.set.Words, b.set.Words)
}

// P3.4

func TestThereAndBack(t *testing.T) {
	c := chance(3)
	for range 3000 {
		var b []byte
		var parts []part
		for range c.below(8) {
			p := somePart(&c)
			b = write(b, p)
			p.number = cut(p.number, min(max(p.size, 1), 8))
			parts = append(parts, p)
		}
		inner, e := bytes.Unseal(bytes.Seal(b))
		if e != api.OK {
			t.Fatalf("unsealed: %d", e)
		}
		r := bytes.Read(inner)
		for i, p := range parts {
			if got := read(r, p); !samePart(got, p) {
				t.Fatalf("part %d: %v, not %v", i, got, p)
			}
		}
		if r.Done() != api.OK {
			t.Fatalf("at the end: %d", r.Done())
		}
	}
}

// P3.5

// readWhole reads b as those parts, and answers what is written of what was read, and whether b was read to its end.
func readWhole(b []byte, parts []part) ([]byte, bool) {
	r := bytes.Read(b)
	var again []byte
	for _, p := range parts {
		again = write(again, read(r, p))
	}
	return again, r.Done() == api.OK
}

// Bytes that were written, and then changed here and there, are often such that they can still be read: as something else.
func TestOneForm(t *testing.T) {
	c := chance(4)
	whole, changed := 0, 0
	for range 20000 {
		var b []byte
		var parts []part
		for range c.below(6) {
			parts = append(parts, somePart(&c))
			b = write(b, parts[len(parts)-1])
		}
		was := slices.Clone(b)
		for range c.below(4) * min(len(b), 1) {
			b[c.below(len(b))] ^= byte(c.next() >> 30)
		}
		again, is := readWhole(b, parts)
		if !is {
			continue
		}
		expect(t, "written again", again, b)
		whole++
		if !slices.Equal(b, was) {
			changed++
		}
	}
	if whole < 5000 || changed < 2000 {
		t.Errorf("only %d were read to their end, %d of them changed", whole, changed)
	}
}

// Of bytes of no order few can be read, and those few the same.
func TestOneFormOfAnyBytes(t *testing.T) {
	c := chance(5)
	for range 20000 {
		b := c.bytes(c.below(12))
		for i := range b {
			b[i] *= byte(c.below(2))
		}
		parts := []part{somePart(&c), somePart(&c)}
		if again, is := readWhole(b, parts); is {
			expect(t, "written again", again, b)
		}
	}
}

func TestOneFormOfASeal(t *testing.T) {
	for _, x := range texts() {
		b := join(x, form(8, plainSum(x)))
		inner, e := bytes.Unseal(b)
		if e != api.OK {
			t.Fatal(e)
		}
		expect(t, "sealed again", bytes.Seal(inner), b)
	}
}

// P3.6

func TestDamage(t *testing.T) {
	for _, x := range texts() {
		if len(x) > 300 {
			continue
		}
		b := bytes.Seal(x)
		for i, was := range b {
			for other := 1; other < 256; other++ {
				b[i] = was ^ byte(other)
				if got, e := bytes.Unseal(b); e != api.ErrSum || got != nil {
					t.Fatalf("byte %d of %d, %d turned into %d: %d", i, len(b), was, b[i], e)
				}
			}
			b[i] = was
		}
		unsealed(t, "as it was", b, x, api.OK)
	}
}
