package print

import "riddle/api"

// none is the place of no node.
const none = -1

// piece is what is still to be written: the text of the node at a place, or, where there is none, words as they are.
type piece struct {
	node  int
	words string
}

// write answers the text of nodes that are a tree.
func write(l []api.Node) []byte {
	var text []byte
	left := []piece{{node: len(l) - 1}}
back:
	if len(left) == 0 {
		return text
	}
	next := left[len(left)-1]
	left = left[:len(left)-1]
	if next.node == none {
		text = append(text, next.words...)
	} else {
		left = unfold(left, l, l[next.node])
	}
	goto back
}

// unfold puts what the text of n is made of on the stack: its end first, since what comes last is written first.
func unfold(left []piece, l []api.Node, n api.Node) []piece {
	own := piece{none, Node(n)}
	switch n.Kind {
	case api.NdCat, api.NdAlt:
		left = part(left, n.B, needsGroup(n.Kind, l[n.B].Kind, true))
		left = append(left, own)
		return part(left, n.A, needsGroup(n.Kind, l[n.A].Kind, false))
	case api.NdRep:
		left = append(left, own)
		return part(left, n.A, needsGroup(n.Kind, l[n.A].Kind, false))
	}
	return append(left, own)
}

func part(left []piece, at int, group bool) []piece {
	if group {
		return append(left, piece{none, ")"}, piece{node: at}, piece{none, "(?:"})
	}
	return append(left, piece{node: at})
}

// needsGroup answers whether a part of the kind inner, as B or as A of a node of the kind outer, would not be read as that part without a group.
func needsGroup(outer, inner int, isB bool) bool {
	switch outer {
	case api.NdAlt:
		return isB && inner == api.NdAlt
	case api.NdCat:
		return inner == api.NdAlt || inner == api.NdEmpty || isB && inner == api.NdCat
	}
	return level(inner) < closest
}
