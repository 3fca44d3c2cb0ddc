package class_test

import (
	"testing"

	"riddle/api"
	"riddle/class"
)

func same(t *testing.T, what string, a, b api.Class) {
	t.Helper()
	if a != b {
		t.Fatalf("%s: %v, %v", what, bytesOf(a), bytesOf(b))
	}
}

// P2.4

func TestLawsOfSets(t *testing.T) {
	for _, a := range samples() {
		same(t, "Not of Not is the class", class.Not(class.Not(a)), a)
		for _, b := range samples() {
			same(t, "Union is commutative", class.Union(a, b), class.Union(b, a))
			same(t, "Meet is commutative", class.Meet(a, b), class.Meet(b, a))
			same(t, "Not of a Union is the Meet of the Nots", class.Not(class.Union(a, b)), class.Meet(class.Not(a), class.Not(b)))
		}
	}
	for _, a := range fewSamples() {
		for _, b := range fewSamples() {
			for _, c := range fewSamples() {
				lawsOfThree(t, a, b, c)
			}
		}
	}
}

func lawsOfThree(t *testing.T, a, b, c api.Class) {
	t.Helper()
	same(t, "Union is associative", class.Union(a, class.Union(b, c)), class.Union(class.Union(a, b), c))
	same(t, "Union of three is that of two and one", class.Union(a, b, c), class.Union(class.Union(a, b), c))
	same(t, "Meet is associative", class.Meet(a, class.Meet(b, c)), class.Meet(class.Meet(a, b), c))
	same(t, "Meet distributes", class.Meet(a, class.Union(b, c)), class.Union(class.Meet(a, b), class.Meet(a, c)))
	same(t, "Union distributes", class.Union(a, class.Meet(b, c)), class.Meet(class.Union(a, b), class.Union(a, c)))
	same(t, "Not of a Union of three", class.Not(class.Union(a, b, c)), class.Meet(class.Not(a), class.Meet(class.Not(b), class.Not(c))))
}

// P2.5

func TestGoneThrough(t *testing.T) {
	for _, c := range samples() {
		var l []byte
		for b := range class.All(c) {
			l = append(l, b)
		}
		same(t, "Of of what All tells", class.Of(l...), c)
		var ranges []api.Class
		for lo, hi := range class.Runs(c) {
			ranges = append(ranges, class.Range(lo, hi))
		}
		same(t, "the Union of the Ranges that Runs tells", class.Union(ranges...), c)
		if class.Count(c) != len(l) {
			t.Fatalf("%v: Count %d, All tells %d", bytesOf(c), class.Count(c), len(l))
		}
	}
}

// P2.6

func TestWithoutCase(t *testing.T) {
	for _, a := range samples() {
		same(t, "Fold of Fold is Fold", class.Fold(class.Fold(a)), class.Fold(a))
		for _, b := range samples() {
			same(t, "Fold of a Union", class.Fold(class.Union(a, b)), class.Union(class.Fold(a), class.Fold(b)))
		}
	}
}
