package literal

import (
	"iter"

	"riddle/api"
	"riddle/normal"
	"riddle/tree"
)

// Runs goes through the runs of letters that stand in each text of t, one behind the other, from left to right: the number of the first part of each, and its letters.
func Runs(t api.Tree) iter.Seq2[int, api.Literal] {
	if !normal.Is(t) {
		return func(func(int, api.Literal) bool) {}
	}
	parts := tree.Parts(t, api.NdCat)
	return func(yield func(int, api.Literal) bool) {
		var run api.Literal
		at := 0
		for part := range parts {
			if l, is := letterOf(part); is {
				run = append(run, l)
			} else if run != nil {
				if !yield(at-len(run), run) {
					return
				}
				run = nil
			}
			at++
		}
		if run != nil {
			yield(at-len(run), run)
		}
	}
}

// Best answers the first MaxLiteral letters of the longest run that has MinLiteral or more, the number of its first part, and whether there is one.
func Best(t api.Tree) (api.Literal, int, bool) {
	var best api.Literal
	first := 0
	for at, run := range Runs(t) {
		if len(run) >= api.MinLiteral && len(run) > len(best) {
			best, first = run, at
		}
	}
	return best[:min(len(best), api.MaxLiteral)], first, best != nil
}

// letterOf answers the letter that a part is alone, and whether it is one.
func letterOf(part api.Tree) (api.Letter, bool) {
	// A root of another kind has a class of no bytes, which no letter has.
	return Letter(part.Nodes[len(part.Nodes)-1].Class)
}
