package tree

import "riddle/api"

// endless is the Most of a repeat, and the greatest width, that has no end.
const endless = -1

// Check answers ErrTree of nodes that are no tree, ErrAnchor of a tree with an anchor where it cannot stand.
func Check(t api.Tree) api.Errno {
	_, is := starts(t.Nodes)
	switch {
	case !is:
		return api.ErrTree
	case !anchorsMay(t.Nodes):
		return api.ErrAnchor
	}
	return api.OK
}

// sound is t as all calls but Check, Same and Clone take it, and where its nodes' subtrees start.
func sound(t api.Tree) (api.Tree, []int) {
	from, is := starts(t.Nodes)
	if !is {
		return empty(), []int{0}
	}
	return t, from
}

// starts answers of each node at which place its subtree starts, and whether the nodes are a tree.
func starts(l []api.Node) ([]int, bool) {
	if len(l) == 0 || len(l) > api.MaxNodes {
		return nil, false
	}
	from := make([]int, len(l))
	for at, n := range l {
		start, may := startOf(n, from[:at])
		if !may {
			return nil, false
		}
		from[at] = start
	}
	return from, from[len(l)-1] == 0
}

// startOf answers at which place the subtree of a node starts that stands just behind those of which from tells it, and whether it may stand there.
func startOf(n api.Node, from []int) (int, bool) {
	start, may := len(from), true
	// What n must be: the fields of its kind alone, and its parts where they belong.
	own := api.Node{Kind: n.Kind}
	switch n.Kind {
	case api.NdEmpty, api.NdHat, api.NdDollar:
	case api.NdClass:
		own.Class = n.Class
	case api.NdCat, api.NdAlt:
		own.B = len(from) - 1
		own.A = startAt(from, own.B) - 1
		start = startAt(from, own.A)
	case api.NdRep:
		own.A = len(from) - 1
		own.Least, own.Most, own.Lazy = n.Least, n.Most, n.Lazy
		start, may = startAt(from, own.A), mayRepeat(n.Least, n.Most)
	default:
		may = false
	}
	return start, may && start >= 0 && n == own
}

// startAt is below 0 where there is no place, so that a node without its parts has no start.
func startAt(from []int, at int) int {
	if at < 0 {
		return -1
	}
	return from[at]
}

func mayRepeat(least, most int) bool {
	if most == endless {
		most = api.MaxRepeat
	}
	return least >= 0 && least <= most && most <= api.MaxRepeat
}

// way is which anchors may stand at the end of a way from the root.
type way struct{ hat, dollar bool }

// anchorsMay answers whether each anchor of a tree stands where it may.
func anchorsMay(l []api.Node) bool {
	ways := make([]way, len(l))
	at := len(l) - 1
	ways[at] = way{true, true}
back:
	switch n, to := l[at], ways[at]; n.Kind {
	case api.NdAlt:
		ways[n.A], ways[n.B] = to, to
	case api.NdCat:
		ways[n.A].hat, ways[n.B].dollar = to.hat, to.dollar
	case api.NdHat:
		if !to.hat {
			return false
		}
	case api.NdDollar:
		if !to.dollar {
			return false
		}
	}
	// Each node stands behind its parts, so the way to it is known when it is met.
	if at > 0 {
		at--
		goto back
	}
	return true
}
