package literal

import (
	"iter"
	"slices"

	"riddle/api"
	"riddle/class"
)

// Places goes through the places of w, rising, at which l is At.
func Places(l api.Literal, w []byte) iter.Seq[int] {
	// The copies are made here and not at the range: their owner may write to them in between.
	l, w = slices.Clone(l), slices.Clone(w)
	return func(yield func(int) bool) {
		both := inBothCases(l)
		// What rough takes as one byte may be two to a letter without Fold: then, and only then, each place is held against the letters, too.
		sure := !slices.ContainsFunc(l, func(x api.Letter) bool { return !folds(x) && class.Has(both, x.Byte) })
		for at := range standing(rough(both, bytesOf(l)), rough(both, w)) {
			if (sure || At(l, w, at)) && !yield(at) {
				return
			}
		}
	}
}

// inBothCases answers the letters of which some letter of l takes the small one and the great one.
func inBothCases(l api.Literal) api.Class {
	var both api.Class
	for _, x := range l {
		if folds(x) {
			both = class.Union(both, Class(x))
		}
	}
	return both
}

// bytesOf answers the Byte of each letter.
func bytesOf(l api.Literal) []byte {
	w := make([]byte, 0, len(l))
	for _, x := range l {
		w = append(w, x.Byte)
	}
	return w
}

// rough answers a copy of w, in which of the letters in both the small one stands for the great one.
func rough(both api.Class, w []byte) []byte {
	w = slices.Clone(w)
	for i, b := range w {
		if class.Has(both, b) {
			w[i] = b | caseBit
		}
	}
	return w
}

// standing goes through the places of w, rising, at which the bytes of l stand. It never goes back in w, so that a long l costs no more steps than a short one.
func standing(l, w []byte) iter.Seq[int] {
	return func(yield func(int) bool) {
		falls := fallsOf(l)
		fit := 0
		for at := range len(w) + 1 {
			if at > 0 {
				fit = fitting(l, falls, fit, w[at-1])
			}
			if fit == len(l) && !yield(at-fit) {
				return
			}
		}
	}
}

// fallsOf answers of each number of l's first bytes how many of these, fewer than all, are both their first and their last ones, at most.
func fallsOf(l []byte) []int {
	falls := make([]int, len(l)+1)
	for at := 1; at < len(l); at++ {
		falls[at+1] = fitting(l, falls, falls[at], l[at])
	}
	return falls
}

// fitting answers how many of l's first bytes are the last ones that came, at most, when b comes and it was fit of them ahead of that.
func fitting(l []byte, falls []int, fit int, b byte) int {
	for fit > 0 && (fit == len(l) || l[fit] != b) {
		fit = falls[fit]
	}
	if fit < len(l) && l[fit] == b {
		fit++
	}
	return fit
}
