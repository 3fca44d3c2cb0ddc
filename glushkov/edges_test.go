package glushkov_test

import (
	"slices"
	"testing"

	"riddle/api"
	"riddle/glushkov"
)

// P10.3: Edges, Same, Clone

// told is all that Edges goes through.
func told(n api.Nfa) [][2]int {
	var l [][2]int
	for from, to := range glushkov.Edges(n) {
		l = append(l, [2]int{from, to})
	}
	return l
}

// edges are those of the table, row by row.
func (m machine) edges() [][2]int {
	var l [][2]int
	for p, row := range m.follow {
		for q, is := range row {
			if is {
				l = append(l, [2]int{p, q})
			}
		}
	}
	return l
}

func TestEdges(t *testing.T) {
	many := 0
	for _, m := range machines() {
		want := m.edges()
		if got := told(m.nfa()); !slices.Equal(got, want) {
			t.Fatalf("%v, not %v", got, want)
		}
		many += len(want)
	}
	if many < 5000 {
		t.Error(many)
	}
	if got := told(xy(true)); !slices.Equal(got, [][2]int{{0, 1}}) {
		t.Error(got)
	}
	if got := told(nfa("xyz", false, nil, nil, [2]int{2, 0}, [2]int{0, 2}, [2]int{2, 2}, [2]int{0, 0})); !slices.Equal(got, [][2]int{{0, 0}, {0, 2}, {2, 0}, {2, 2}}) {
		t.Error(got)
	}
}

func TestEdgesOfNoPositions(t *testing.T) {
	for _, n := range []api.Nfa{{}, glushkov.Empty(), glushkov.Leaf(raw('a')), blank(512).nfa()} {
		if got := told(n); len(got) != 0 {
			t.Error(got)
		}
	}
}

func TestEdgesOfWhatMayNotBe(t *testing.T) {
	for _, n := range wrong() {
		if got := told(n); len(got) != 0 {
			t.Fatalf("%s: %v", show(n), got)
		}
	}
	n := nfa("xy", false, nil, nil, [2]int{0, 0}, [2]int{0, 1}, [2]int{1, 1})
	n.First.N = 3
	if got := told(n); len(got) != 0 {
		t.Error(got)
	}
}

func TestEdgesLeftEarly(t *testing.T) {
	r := chance(31)
	m := r.machine(70)
	want := m.edges()
	all := glushkov.Edges(m.nfa())
	for stop := range min(len(want), 300) {
		var got [][2]int
		for from, to := range all {
			got = append(got, [2]int{from, to})
			if len(got) == stop+1 {
				break
			}
		}
		if !slices.Equal(got, want[:stop+1]) {
			t.Fatalf("%v, not %v", got, want[:stop+1])
		}
	}
	// And again, from the beginning to the end, within one another.
	many := 0
	for range all {
		for from, to := range all {
			if want[many%len(want)] != [2]int{from, to} {
				t.Fatal(from, to)
			}
			many++
		}
		if many == 3*len(want) {
			break
		}
	}
	if many != 3*len(want) {
		t.Error(many)
	}
}

func TestEdgesTellWhatWasThere(t *testing.T) {
	r := chance(32)
	m := r.machine(67)
	n, want := m.nfa(), m.edges()
	all := glushkov.Edges(n)
	scribble(n)
	for range 2 {
		var got [][2]int
		for from, to := range all {
			got = append(got, [2]int{from, to})
		}
		if !slices.Equal(got, want) {
			t.Fatalf("%v, not %v", got, want)
		}
	}
	// Written to while it is gone through.
	n = m.nfa()
	k := 0
	for from, to := range glushkov.Edges(n) {
		if want[k] != [2]int{from, to} {
			t.Fatal(k, from, to)
		}
		scribble(n)
		k++
	}
	if k != len(want) {
		t.Error(k)
	}
	// And once refused, it stays so.
	n = m.nfa()
	n.Follow[3].N = 5
	none := glushkov.Edges(n)
	n.Follow[3].N = 67
	for from, to := range none {
		t.Fatal(from, to)
	}
}

// scribble writes to all memory of n.
func scribble(n api.Nfa) {
	for _, s := range append([]api.Bits{n.First, n.Last}, n.Follow...) {
		for i := range s.Words {
			s.Words[i] = 0x5a5a
		}
	}
	for p := range n.Follow {
		n.Follow[p] = api.Bits{N: 77}
	}
	for p := range n.Classes {
		n.Classes[p] = api.Class{7, 7, 7, 7}
	}
}

func TestSame(t *testing.T) {
	l := machines()
	for i, p := range l {
		for k, q := range l {
			if got := glushkov.Same(p.nfa(), q.nfa()); got != equal(p.nfa(), q.nfa()) || i == k && !got {
				t.Fatalf("%s, %s: %t", show(p.nfa()), show(q.nfa()), got)
			}
		}
	}
}

// Each field alone makes two automata unlike.
func TestSameFieldByField(t *testing.T) {
	r := chance(33)
	for _, many := range []int{1, 3, 64, 65, 130} {
		m := r.machine(many)
		changes := []func(n *api.Nfa){
			func(n *api.Nfa) { n.Null = !n.Null },
			func(n *api.Nfa) { n.First.Words[0] ^= 1 },
			func(n *api.Nfa) { n.Last.Words[0] ^= 1 },
			func(n *api.Nfa) { n.First.Words[(many-1)/64] ^= 1 << ((many - 1) % 64) },
			func(n *api.Nfa) { n.Last.Words[(many-1)/64] ^= 1 << ((many - 1) % 64) },
			func(n *api.Nfa) { n.First = put(many + 1) },
			func(n *api.Nfa) { n.Last = put(many + 1) },
			func(n *api.Nfa) { n.Classes = n.Classes[:many-1] },
			func(n *api.Nfa) { n.Follow = n.Follow[:many-1] },
			func(n *api.Nfa) { n.Classes = append(n.Classes, api.Class{}) },
			func(n *api.Nfa) { n.Follow = append(n.Follow, api.Bits{}) },
		}
		for p := range min(many, 70) {
			changes = append(changes,
				func(n *api.Nfa) { n.Classes[p][0] ^= 1 },
				func(n *api.Nfa) { n.Classes[p][3] ^= 1 << 63 },
				func(n *api.Nfa) { n.Follow[p].Words[0] ^= 1 },
				func(n *api.Nfa) { n.Follow[p].Words[(many-1)/64] ^= 1 << ((many - 1) % 64) },
				func(n *api.Nfa) { n.Follow[p] = put(many + 1) },
			)
		}
		for i, change := range changes {
			x, y := m.nfa(), m.nfa()
			if !glushkov.Same(x, y) {
				t.Fatal("not the same")
			}
			change(&y)
			if glushkov.Same(x, y) || glushkov.Same(y, x) {
				t.Errorf("%d positions: the change %d is not looked at", many, i)
			}
		}
	}
}

func TestSameOfEmptyAndNil(t *testing.T) {
	l := []api.Nfa{
		{}, {Classes: []api.Class{}}, {Follow: []api.Bits{}}, {First: api.Bits{Words: []uint64{}}}, {Last: api.Bits{Words: []uint64{}}},
		{Classes: []api.Class{}, Follow: []api.Bits{}, First: api.Bits{Words: []uint64{}}, Last: api.Bits{Words: []uint64{}}},
	}
	for _, x := range l {
		for _, y := range l {
			if !glushkov.Same(x, y) {
				t.Errorf("%#v, %#v", x, y)
			}
		}
		if glushkov.Same(x, glushkov.Empty()) || glushkov.Same(glushkov.Empty(), x) {
			t.Errorf("%#v is Empty", x)
		}
	}
	x, y := api.Nfa{Follow: []api.Bits{{}, {Words: []uint64{}}}}, api.Nfa{Follow: []api.Bits{{Words: []uint64{}}, {}}}
	if !glushkov.Same(x, y) {
		t.Error("sets of no words")
	}
}

// Of what Check refuses, too, the fields are held against each other; a set that bits.Check refuses is that of N 0 there.
func TestSameOfWhatMayNotBe(t *testing.T) {
	for _, x := range wrong() {
		if !glushkov.Same(x, x) {
			t.Fatalf("%s is not the same", show(x))
		}
		y := x
		y.Null = !x.Null
		if glushkov.Same(x, y) {
			t.Fatalf("%s: Null is not looked at", show(x))
		}
		y = x
		y.Classes = append(slices.Clone(x.Classes), raw('a'))
		if glushkov.Same(x, y) {
			t.Fatalf("%s: Classes are not looked at", show(x))
		}
	}
	none := api.Nfa{}
	for _, s := range []api.Bits{{N: -1}, {N: 3}, {N: 8193, Words: make([]uint64, 129)}, {N: 3, Words: []uint64{8}}, {Words: []uint64{0}}} {
		for _, x := range []api.Nfa{{First: s}, {Last: s}, {First: s, Last: api.Bits{N: -7}}} {
			if !glushkov.Same(x, none) || !glushkov.Same(none, x) {
				t.Errorf("%s", show(x))
			}
		}
		if glushkov.Same(api.Nfa{Follow: []api.Bits{s}}, none) || !glushkov.Same(api.Nfa{Follow: []api.Bits{s}}, api.Nfa{Follow: []api.Bits{{}}}) || glushkov.Same(api.Nfa{Follow: []api.Bits{s}}, api.Nfa{Follow: []api.Bits{put(1)}}) {
			t.Errorf("%v", s)
		}
	}
	// Sets of any N that bits.Check takes are held as they are.
	if glushkov.Same(api.Nfa{First: put(5, 3)}, api.Nfa{First: put(5, 4)}) || !glushkov.Same(api.Nfa{Last: put(5, 3)}, api.Nfa{Last: put(5, 3)}) {
		t.Error("sets of another N")
	}
	long := api.Nfa{Classes: make([]api.Class, 2000), Follow: make([]api.Bits, 3)}
	other := glushkov.Clone(long)
	if !glushkov.Same(long, other) {
		t.Error("a long one")
	}
	other.Classes[1999][2] = 1
	if glushkov.Same(long, other) {
		t.Error("the end of a long one")
	}
}

func TestClone(t *testing.T) {
	l := append(wrong(), api.Nfa{}, glushkov.Empty(), api.Nfa{Classes: []api.Class{}, Follow: []api.Bits{}}, blank(512).nfa(), blank(3000).nfa())
	for _, m := range machines() {
		l = append(l, m.nfa())
	}
	for _, n := range l {
		if got := glushkov.Clone(n); !equal(got, n) || !glushkov.Same(got, n) || glushkov.Check(got) != glushkov.Check(n) {
			t.Fatalf("%s, not %s", show(got), show(n))
		}
	}
}

func TestCloneIsItsOwn(t *testing.T) {
	r := chance(34)
	for _, many := range []int{1, 2, 64, 65, 130} {
		m := r.machine(many)
		n := m.nfa()
		one, two := glushkov.Clone(n), glushkov.Clone(n)
		scribble(n)
		if !equal(one, m.nfa()) || !equal(two, m.nfa()) {
			t.Fatal("a clone changes with what it is of")
		}
		scribble(one)
		if !equal(two, m.nfa()) {
			t.Fatal("a clone changes with another one")
		}
		n = m.nfa()
		two = glushkov.Clone(n)
		scribble(two)
		if !equal(n, m.nfa()) {
			t.Fatal("what was cloned changes with the clone")
		}
	}
}
