package normal

import "riddle/api"

// size answers how many nodes a tree has when it is unrolled: MaxNodes + 1 of all that are more.
func size(l []api.Node) int {
	sizes := make([]int, 0, len(l))
	for _, n := range l {
		sizes = append(sizes, min(sizeOf(n, sizes), api.MaxNodes+1))
	}
	return sizes[len(sizes)-1]
}

func sizeOf(n api.Node, sizes []int) int {
	switch n.Kind {
	case api.NdCat, api.NdAlt:
		return sizes[n.A] + sizes[n.B] + 1
	case api.NdRep:
		return repeatSize(sizes[n.A], n.Least, n.Most)
	}
	return 1
}

// repeatSize counts with each part the NdCat that joins it to what stands behind it. The last part has none: a star has its NdRep in place of it.
func repeatSize(part, least, most int) int {
	switch most {
	case 0:
		return 1
	case endless:
		return (least + 1) * (part + 1)
	}
	// What may be left out has an NdAlt and an NdEmpty besides.
	return least*(part+1) + (most-least)*(part+3) - 1
}

// writer puts nodes behind each other, each behind its parts; open are the places of those that no node has taken as a part yet.
type writer struct {
	nodes []api.Node
	open  []int
}

// written answers the subtree of the node of l at a place, unrolled, as a tree of its own.
func written(l []api.Node, at int) api.Tree {
	var w writer
	w.write(l, at)
	return api.Tree{Nodes: w.nodes}
}

// write goes from the root to the parts, since a repeat from 0 to 0 may have ever so great a part, of which nothing is left.
func (w *writer) write(l []api.Node, at int) {
	switch n := l[at]; n.Kind {
	case api.NdCat, api.NdAlt:
		w.write(l, n.A)
		w.write(l, n.B)
		w.put(n)
	case api.NdRep:
		w.repeat(l, n)
	default:
		w.put(n)
	}
}

func (w *writer) repeat(l []api.Node, n api.Node) {
	if n.Most == 0 {
		w.put(api.Node{Kind: api.NdEmpty})
		return
	}
	from := len(w.nodes)
	w.write(l, n.A)
	to := len(w.nodes)
	for range n.Least - 1 {
		w.again(from, to)
		w.put(api.Node{Kind: api.NdCat})
	}
	if n.Least == n.Most {
		return
	}
	// The part that is there already is one of the least, or else the first one of what comes behind these.
	if n.Least > 0 {
		w.again(from, to)
	}
	if n.Most == endless {
		w.put(star(0))
	} else {
		w.option(n.Most-n.Least, from, to)
	}
	if n.Least > 0 {
		w.put(api.Node{Kind: api.NdCat})
	}
}

// option puts up to many of the part that stands from one place to another; the first of them is there already.
func (w *writer) option(many, from, to int) {
	for range many - 1 {
		w.again(from, to)
	}
	for left := range many {
		// The last part has nothing behind it to be joined to.
		if left > 0 {
			w.put(api.Node{Kind: api.NdCat})
		}
		w.put(api.Node{Kind: api.NdEmpty})
		w.put(api.Node{Kind: api.NdAlt})
	}
}

// again puts what stands from one place to another once more.
func (w *writer) again(from, to int) {
	for at := from; at < to; at++ {
		w.put(w.nodes[at])
	}
}

// put takes as n's parts the last ones that are open, whatever parts n had where it comes from.
func (w *writer) put(n api.Node) {
	last := len(w.open) - 1
	switch n.Kind {
	case api.NdCat, api.NdAlt:
		n.A, n.B = w.open[last-1], w.open[last]
		w.open = w.open[:last-1]
	case api.NdRep:
		n.A = w.open[last]
		w.open = w.open[:last]
	}
	w.open = append(w.open, len(w.nodes))
	w.nodes = append(w.nodes, n)
}
