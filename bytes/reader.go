package bytes

import (
	"math"
	"slices"

	"riddle/api"
	"riddle/bits"
)

// Reader goes through bytes from the left, up to its first error.
type Reader struct {
	left []byte
	err  api.Errno
	made bool
}

// Read answers a reader of b.
func Read(b []byte) *Reader {
	// b's owner may write to it while it is being read.
	return &Reader{left: slices.Clone(b), made: true}
}

// Num answers the number of the next size bytes, if it is not above most.
func (r *Reader) Num(size int, most uint64) uint64 {
	var x uint64
	e := api.ErrShort
	size = sizeOf(size)
	// No byte is left with an error, nor of a reader that no call made, so both give up here; Fail leaves them as they are.
	if r.Left() < size {
		goto end
	}
	x = number(r.left[:size])
	if x > most {
		e = api.ErrGreat
		goto end
	}
	r.left = r.left[size:]
	return x
end:
	r.Fail(e)
	return 0
}

// Str answers the next byte string, if it has no more than most bytes.
func (r *Reader) Str(most int) []byte {
	var x []byte
	n := int(r.Num(lengthSize, uint64(min(max(most, 0), api.MaxBlob))))
	e := r.Err()
	if e != api.OK {
		goto end
	}
	if len(r.left) < n {
		e = api.ErrShort
		goto end
	}
	// Who owns the answer may write to it, and to what stands behind it; the next bytes stand there, and a copy of the reader may read these again.
	x = slices.Clone(r.left[:n])
	r.left = r.left[n:]
	return x
end:
	r.Fail(e)
	return nil
}

// Set answers the set of N n whose words come next.
func (r *Reader) Set(n int) api.Bits {
	s, e := bits.New(n)
	if e != api.OK {
		e = api.ErrGreat
		goto end
	}
	for i := range s.Words {
		s.Words[i] = r.Num(wordSize, math.MaxUint64)
	}
	e = r.Err()
	if e != api.OK {
		goto end
	}
	// N and the words' count are New's, so all that Check can refuse is a number that is not below n.
	if bits.Check(s) != api.OK {
		e = api.ErrGreat
		goto end
	}
	return s
end:
	r.Fail(e)
	return api.Bits{}
}

// Fail makes e the reader's error, if it has none.
func (r *Reader) Fail(e api.Errno) {
	if e == api.OK || r.Err() != api.OK {
		return
	}
	r.err, r.left = e, nil
}

// Left answers how many bytes are left, none with an error.
func (r *Reader) Left() int {
	if r.Err() != api.OK {
		return 0
	}
	return len(r.left)
}

// Err answers the reader's error.
func (r *Reader) Err() api.Errno {
	if r == nil || !r.made {
		return api.ErrMade
	}
	return r.err
}

// Done answers the reader's error, or ErrExtra if bytes are left.
func (r *Reader) Done() api.Errno {
	e := r.Err()
	if e == api.OK && len(r.left) > 0 {
		e = api.ErrExtra
	}
	return e
}
