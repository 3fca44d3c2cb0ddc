package bucket_test

import (
	"bytes"
	"slices"
	"testing"

	"riddle/api"
	"riddle/bucket"
	"riddle/literal"
)

// told are the buckets that Scan tells of each place.
func told(m api.Masks, w []byte) []byte {
	l := make([]byte, len(w)+1)
	for at, buckets := range bucket.Scan(m, w) {
		l[at] = buckets
	}
	return l
}

// P17.3

// passesNone fails unless at each place at which a literal stands its bucket is told; it answers at how many one does.
func passesNone(t *testing.T, l []api.Literal, w []byte) int {
	t.Helper()
	stand := 0
	buckets := told(made(t, l...), w)
	for k, x := range l {
		for at := range w {
			if standsAt(x, w, at) {
				stand++
				if buckets[at]&bits[k%8] == 0 {
					t.Fatalf("%s, %q: number %d at %d: %08b", show(l...), w, k, at, buckets[at])
				}
			}
		}
	}
	return stand
}

func TestNothingIsPassedOver(t *testing.T) {
	stand := 0
	eachLiteral(lit("a~aAb"), 4, func(l api.Literal) {
		eachText("aAb", 5, func(w []byte) { stand += passesNone(t, []api.Literal{l}, w) })
	})
	if stand < 10000 {
		t.Error(stand)
	}
}

func TestNothingOfManyIsPassedOver(t *testing.T) {
	c := chance(31)
	stand := 0
	for i := range 2000 {
		of := alphabets[i%len(alphabets)]
		l := c.literals([]int{1 + c.below(4), 1 + c.below(30), 256}[i%3], 2+c.below(15), of)
		stand += passesNone(t, l, c.around(l, of))
	}
	if stand < 50000 {
		t.Error(stand)
	}
}

// Of each length, at a text's beginning and end, and where the text is no longer than the literal.
func TestNothingAtTheEdgesIsPassedOver(t *testing.T) {
	c := chance(32)
	for n := 2; n <= 16; n++ {
		for i := range 200 {
			l := c.literals(1+c.below(20), 16, alphabets[i%len(alphabets)])
			k := c.below(len(l))
			l[k] = nil
			var w []byte
			for range n {
				x := api.Letter{Byte: byte(c.next() >> 16)}
				x.Fold = isSmall(x.Byte) && c.is()
				l[k] = append(l[k], x)
				w = append(w, takes(x)[c.below(len(takes(x)))])
			}
			for _, text := range [][]byte{w, append(w, c.text(4, "")...), slices.Concat(c.text(4, ""), w), slices.Concat(c.text(4, ""), w, c.text(4, ""))} {
				if passesNone(t, l, text) == 0 {
					t.Fatalf("%s, %q: stands nowhere", show(l[k]), text)
				}
			}
		}
	}
}

// What package literal says of the places, bucket by bucket of Of, number by number of Members.
func TestThePlacesOfLiteralsAreTold(t *testing.T) {
	c := chance(33)
	stand := 0
	for i := range 1000 {
		of := alphabets[i%len(alphabets)]
		l := c.literals(1+c.below(40), 6, of)
		w := c.around(l, of)
		m := made(t, l...)
		buckets := told(m, w)
		for k, x := range l {
			for at := range literal.Places(x, w) {
				stand++
				if buckets[at]&bucket.Of(k) == 0 || !slices.Contains(slices.Collect(bucket.Members(m, buckets[at])), k) || bucket.Look(m, w[at:]...)&bucket.Of(k) == 0 {
					t.Fatalf("%s, %q: number %d at %d: %08b", show(l...), w, k, at, buckets[at])
				}
			}
		}
	}
	if stand < 5000 {
		t.Error(stand)
	}
}

// P17.4

// some is whether a literal of the bucket has, or does not ask for, such a nibble at its i-th letter.
func some(l []api.Literal, number, i, x int, nibble func(byte) int) bool {
	for k := number; k < len(l); k += 8 {
		if has(l[k], i, x, nibble) {
			return true
		}
	}
	return false
}

// mayBegin is whether each of the bytes ahead is one that the bucket has, in both of its nibbles.
func mayBegin(l []api.Literal, number int, w []byte) bool {
	for i, b := range w[:min(3, len(w))] {
		if !some(l, number, i, low(b), low) || !some(l, number, i, high(b), high) {
			return false
		}
	}
	return true
}

// notMuchMore fails unless all that is told may begin there; it answers how much is told.
func notMuchMore(t *testing.T, l []api.Literal, w []byte) int {
	t.Helper()
	n := 0
	for at, buckets := range bucket.Scan(made(t, l...), w) {
		if buckets == 0 {
			t.Fatalf("%s, %q: no bucket at %d", show(l...), w, at)
		}
		for number := range 8 {
			is := buckets&bits[number] != 0
			if is && number >= len(l) {
				t.Fatalf("%s, %q: at %d bucket %d, which has no literal", show(l...), w, at, number)
			}
			if is != mayBegin(l, number, w[at:]) {
				t.Fatalf("%s, %q: at %d bucket %d: %t", show(l...), w, at, number, is)
			}
			if is {
				n++
			}
		}
	}
	return n
}

func TestNotMuchMoreIsTold(t *testing.T) {
	n := 0
	eachLiteral(lit("a~aA1"), 4, func(l api.Literal) {
		eachText("aA1q", 4, func(w []byte) { n += notMuchMore(t, []api.Literal{l}, w) })
	})
	if n < 10000 {
		t.Error(n)
	}
}

func TestNotMuchMoreOfManyIsTold(t *testing.T) {
	c := chance(34)
	n := 0
	for i := range 2000 {
		of := alphabets[i%len(alphabets)]
		l := c.literals([]int{c.below(9), 1 + c.below(30), 256}[i%3], 2+c.below(15), of)
		n += notMuchMore(t, l, c.around(l, of))
		n += notMuchMore(t, l, c.text(20, ""))
	}
	if n < 50000 {
		t.Error(n)
	}
}

// Of fewer literals than there are buckets the other buckets are never told, whatever bytes come.
func TestBucketsWithoutLiterals(t *testing.T) {
	c := chance(35)
	w := make([]byte, 3000)
	for i := range w {
		w[i] = byte(c.next() >> 16)
	}
	for many := range 8 {
		l := c.literals(many, 3, "")
		for range 30 {
			l = c.literals(many, 3, "")
			for at, buckets := range bucket.Scan(made(t, l...), w) {
				if int(buckets) >= 1<<many {
					t.Fatal(show(l...), many, at, buckets)
				}
			}
		}
	}
}

// Where each bucket has one literal no nibble is another one's: what is told is just where the first three letters stand, or as many of them as there are bytes.
func TestOfOneLiteralABucketNoMoreIsTold(t *testing.T) {
	c := chance(36)
	n := 0
	for i := range 3000 {
		of := alphabets[i%len(alphabets)]
		l := c.literals(1+c.below(8), 2+c.below(6), of)
		w := c.around(l, of)
		buckets := told(made(t, l...), w)
		for at := range max(0, len(w)-1) {
			for k, x := range l {
				want := standsAt(x[:min(3, len(x), len(w)-at)], w, at)
				if is := buckets[at]&bits[k] != 0; is != want {
					t.Fatalf("%s, %q: number %d at %d: %t", show(l...), w, k, at, is)
				}
				if want {
					n++
				}
			}
		}
	}
	if n < 10000 {
		t.Error(n)
	}
}

// And of one of two or three plain letters that is what the library finds.
func TestWhatIsToldIsTheLibrarys(t *testing.T) {
	c := chance(37)
	n := 0
	for range 2000 {
		l, w := c.text(1, "AB01"), c.text(60, "AB01")
		l = append(l, "AB01"[c.below(4)], "AB01"[c.below(4)])
		var got, want []int
		for at, buckets := range bucket.Scan(made(t, lit(string(l))), w) {
			// At the end two bytes are told though the third one is not there.
			if at+len(l) <= len(w) {
				got = append(got, at)
			}
			if buckets != 1 {
				t.Fatal(buckets)
			}
		}
		for at := range w {
			if bytes.HasPrefix(w[at:], l) {
				want = append(want, at)
			}
		}
		if !slices.Equal(got, want) {
			t.Fatalf("%q, %q: %v, not %v", l, w, got, want)
		}
		n += len(want)
	}
	if n < 2000 {
		t.Error(n)
	}
}

// A literal more takes nothing away, and adds nothing but its own bucket.
func TestALiteralMore(t *testing.T) {
	c := chance(38)
	for i := range 500 {
		of := alphabets[i%len(alphabets)]
		l := c.literals(1+c.below(20), 5, of)
		w := c.around(l, of)
		was, is := told(made(t, l[:len(l)-1]...), w), told(made(t, l...), w)
		for at := range w {
			if was[at]&^is[at] != 0 || is[at]&^was[at]&^bits[(len(l)-1)%8] != 0 {
				t.Fatalf("%s, %q: at %d %08b, then %08b", show(l...), w, at, was[at], is[at])
			}
		}
	}
}
