package tree

import "riddle/api"

// widths is the least and the greatest number of bytes.
type widths struct{ least, most int }

// Widths answers how many bytes a text that t means can have, at least and at most.
func Widths(t api.Tree) (int, int) {
	root := measure(t, widthsOf)
	return root.least, root.most
}

// Weight answers how many classes t has when its repeats are unrolled.
func Weight(t api.Tree) int { return measure(t, weightOf) }

// measure answers what the root comes to, where each node comes to what of makes of it and of what the nodes ahead of it came to.
func measure[M any](t api.Tree, of func(n api.Node, l []M) M) M {
	t, _ = sound(t)
	l := make([]M, 0, len(t.Nodes))
	for _, n := range t.Nodes {
		l = append(l, of(n, l))
	}
	return l[len(l)-1]
}

func widthsOf(n api.Node, l []widths) widths {
	switch n.Kind {
	case api.NdClass:
		return widths{1, 1}
	case api.NdCat:
		a, b := l[n.A], l[n.B]
		return widths{plus(a.least, b.least), plus(a.most, b.most)}
	case api.NdAlt:
		a, b := l[n.A], l[n.B]
		return widths{min(a.least, b.least), greater(a.most, b.most)}
	case api.NdRep:
		a := l[n.A]
		return widths{times(n.Least, a.least), times(n.Most, a.most)}
	}
	return widths{}
}

func weightOf(n api.Node, l []int) int {
	switch n.Kind {
	case api.NdClass:
		return 1
	case api.NdCat, api.NdAlt:
		return plus(l[n.A], l[n.B])
	case api.NdRep:
		many := n.Most
		if many == endless {
			many = n.Least + 1
		}
		return times(many, l[n.A])
	}
	return 0
}

// plus is, as times and greater are, of numbers up to MaxWidth that may be endless; no greater one is made on the way, so that an int of any size holds it.
func plus(a, b int) int {
	if a == endless || b == endless {
		return endless
	}
	return a + min(b, api.MaxWidth-a)
}

func times(a, b int) int {
	switch {
	case a == 0 || b == 0:
		return 0
	case a == endless || b == endless:
		return endless
	case a > api.MaxWidth/b:
		return api.MaxWidth
	}
	return a * b
}

func greater(a, b int) int {
	if a == endless || b == endless {
		return endless
	}
	return max(a, b)
}
