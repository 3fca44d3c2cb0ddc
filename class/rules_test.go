package class_test

import (
	"slices"
	"testing"

	"riddle/api"
	"riddle/class"
)

// answers are all calls of two classes that answer a class.
func answers(a, b api.Class) []api.Class {
	return []api.Class{class.Union(a, b), class.Union(a), class.Meet(a, b), class.Not(a), class.Fold(a)}
}

// readAll does all calls of a class that answer none.
func readAll(c api.Class) {
	class.Has(c, 'a')
	class.Count(c)
	class.First(c)
	class.Text(c)
	for range class.All(c) {
	}
	for range class.Runs(c) {
	}
}

// R1

func TestNoCallPanics(t *testing.T) {
	for _, c := range samples() {
		readAll(c)
		for _, b := range edges {
			class.Has(c, b)
			answers(c, class.Range(b, 'a'))
		}
	}
}

// R3

// guarded is l in a greater memory, whose other bytes are 170: what is written behind the list is seen, too.
func guarded(l ...byte) ([]byte, []byte) {
	memory := append(slices.Clone(l), 170, 170, 170, 170)
	return memory[:len(l)], memory
}

func TestOfLeavesItsBytes(t *testing.T) {
	l, memory := guarded('z', 'a', 'a', 200, 0)
	was := slices.Clone(memory)
	c := class.Of(l...)
	if !slices.Equal(memory, was) {
		t.Error("Of wrote to its bytes", memory)
	}
	l[0], l[1] = 'p', 'q'
	expect(t, "Of as its bytes change", c, []byte{0, 'a', 'z', 200})
}

func TestUnionLeavesItsClasses(t *testing.T) {
	memory := []api.Class{raw('a', 0), raw('b'), raw(255), raw(170), raw(170)}
	was := slices.Clone(memory)
	c := class.Union(memory[:3]...)
	one := class.Union(memory[:1]...)
	if !slices.Equal(memory, was) {
		t.Error("Union wrote to its classes", memory)
	}
	memory[0], memory[1] = raw('p'), raw('q')
	expect(t, "Union as its classes change", c, []byte{0, 'a', 'b', 255})
	expect(t, "Union of one as it changes", one, []byte{0, 'a'})
}

func TestClassesAreTheirOwners(t *testing.T) {
	for _, a := range samples() {
		for _, b := range fewSamples() {
			x, y := a, b
			for _, c := range answers(x, y) {
				c[0], c[3] = ^c[0], ^c[3]
			}
			readAll(x)
			if x != a || y != b {
				t.Fatalf("%v, %v: an argument was written to", bytesOf(a), bytesOf(b))
			}
		}
	}
}

func TestIteratorsTellWhatWasThere(t *testing.T) {
	c := raw(0, 'a', 'b', 255)
	all, runs := class.All(c), class.Runs(c)
	c = raw('x')
	if l := slices.Collect(all); !slices.Equal(l, []byte{0, 'a', 'b', 255}) {
		t.Error("All:", l)
	}
	var l []run
	for lo, hi := range runs {
		l = append(l, run{lo, hi})
		c = api.Class{}
	}
	if !slices.Equal(l, []run{{0, 0}, {'a', 'b'}, {255, 255}}) {
		t.Error("Runs:", l)
	}
}

func TestAllStopsAndBeginsAnew(t *testing.T) {
	want := []byte{0, 'a', 'b', 63, 64, 255}
	slices.Sort(want)
	all := class.All(raw(want...))
	for stop := range len(want) + 1 {
		var l []byte
		for b := range all {
			if len(l) == stop {
				break
			}
			l = append(l, b)
		}
		if !slices.Equal(l, want[:stop]) {
			t.Errorf("stopped at %d: %v", stop, l)
		}
	}
	for b := range all {
		for c := range all {
			if c > b {
				break
			}
		}
	}
	if l := slices.Collect(all); !slices.Equal(l, want) {
		t.Error("anew:", l)
	}
}

func TestRunsStopAndBeginAnew(t *testing.T) {
	want := []run{{0, 1}, {'a', 'c'}, {200, 200}, {254, 255}}
	runs := class.Runs(raw(0, 1, 'a', 'b', 'c', 200, 254, 255))
	for stop := range len(want) + 1 {
		var l []run
		for lo, hi := range runs {
			if len(l) == stop {
				break
			}
			l = append(l, run{lo, hi})
		}
		if !slices.Equal(l, want[:stop]) {
			t.Errorf("stopped at %d: %v", stop, l)
		}
	}
	for lo := range runs {
		for other := range runs {
			if other > lo {
				break
			}
		}
	}
	var l []run
	for lo, hi := range runs {
		l = append(l, run{lo, hi})
	}
	if !slices.Equal(l, want) {
		t.Error("anew:", l)
	}
}

// R4

func TestNilAndEmptyLists(t *testing.T) {
	same(t, "Of", class.Of(nil...), class.Of([]byte{}...))
	same(t, "Union", class.Union(nil...), class.Union([]api.Class{}...))
	same(t, "Of of nothing", class.Of(), api.Class{})
	same(t, "Union of nothing", class.Union(), api.Class{})
}

// R6

func TestSameCallsAnswerTheSame(t *testing.T) {
	for _, a := range samples() {
		for _, b := range fewSamples() {
			if !slices.Equal(answers(a, b), answers(a, b)) {
				t.Fatalf("%v, %v: another answer", bytesOf(a), bytesOf(b))
			}
		}
		if class.Text(a) != class.Text(a) || !slices.Equal(runsTold(a), runsTold(a)) {
			t.Fatalf("%v: another answer", bytesOf(a))
		}
	}
}
