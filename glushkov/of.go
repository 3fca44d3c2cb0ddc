package glushkov

import (
	"slices"

	"riddle/api"
	"riddle/bits"
	"riddle/normal"
	"riddle/tree"
)

// Of answers the automaton of a plain tree without anchors.
func Of(t api.Tree) (api.Nfa, api.Errno) {
	switch {
	case !normal.Is(t) || slices.ContainsFunc(t.Nodes, isAnchor):
		return api.Nfa{}, api.ErrArg
	case tree.Weight(t) > api.MaxPositions:
		return api.Nfa{}, api.ErrPositions
	}
	classes := classesOf(t.Nodes)
	parts := partsOf(t.Nodes, len(classes))
	root := parts[len(parts)-1]
	// Nodes share the sets that are the same in them: what is answered shares none.
	return Clone(api.Nfa{
		Classes: classes,
		First:   root.first,
		Last:    root.last,
		Follow:  followOf(t.Nodes, parts, len(classes)),
		Null:    root.null,
	}), api.OK
}

func isAnchor(n api.Node) bool { return n.Kind == api.NdHat || n.Kind == api.NdDollar }

// classesOf answers the classes in the order of their positions: from left to right, as they stand among the nodes.
func classesOf(l []api.Node) []api.Class {
	var classes []api.Class
	for _, n := range l {
		if n.Kind == api.NdClass {
			classes = append(classes, n.Class)
		}
	}
	return classes
}

// part is which positions of the whole tree may come first and last in a node's texts, and whether one of these is empty.
type part struct {
	first, last api.Bits
	null        bool
}

// partsOf answers the part of each node of a plain tree of so many positions.
func partsOf(l []api.Node, many int) []part {
	none := noneOf(many)
	parts := make([]part, 0, len(l))
	position := 0
	for _, n := range l {
		p := part{none, none, true}
		switch n.Kind {
		case api.NdClass:
			one := bits.With(none, position)
			p = part{one, one, false}
			position++
		case api.NdCat:
			p = catPart(parts[n.A], parts[n.B])
		case api.NdAlt:
			a, b := parts[n.A], parts[n.B]
			p = part{bits.Or(a.first, b.first), bits.Or(a.last, b.last), a.null || b.null}
		case api.NdRep:
			p = parts[n.A]
			p.null = true
		}
		parts = append(parts, p)
	}
	return parts
}

func catPart(a, b part) part {
	p := part{a.first, b.last, a.null && b.null}
	if a.null {
		p.first = bits.Or(a.first, b.first)
	}
	if b.null {
		p.last = bits.Or(a.last, b.last)
	}
	return p
}

// followOf answers of each position what may come behind it. It goes from the root to the leaves with what may come behind each node, which takes one step a node: Cat and Star of parts, node by node, would write the sets of all positions below anew at each.
func followOf(l []api.Node, parts []part, many int) []api.Bits {
	behind := make([]api.Bits, len(l))
	behind[len(l)-1] = noneOf(many)
	follow := make([]api.Bits, many)
	position := many
	// A node stands behind its parts, so the way back meets it ahead of them, and the positions from right to left.
	for at, n := range slices.Backward(l) {
		switch n.Kind {
		case api.NdClass:
			position--
			follow[position] = behind[at]
		case api.NdCat:
			behind[n.A], behind[n.B] = parts[n.B].first, behind[at]
			if parts[n.B].null {
				behind[n.A] = bits.Or(parts[n.B].first, behind[at])
			}
		case api.NdAlt:
			behind[n.A], behind[n.B] = behind[at], behind[at]
		case api.NdRep:
			behind[n.A] = bits.Or(parts[n.A].first, behind[at])
		}
	}
	return follow
}
