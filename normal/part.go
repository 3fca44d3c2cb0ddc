package normal

import "riddle/api"

// ends is which anchors a text stands at: just behind an NdHat, just ahead of an NdDollar.
type ends struct{ hat, dollar bool }

// inOrder answers all ends in the order in which branches are told.
func inOrder() [4]ends {
	return [4]ends{{}, {hat: true}, {dollar: true}, {hat: true, dollar: true}}
}

// roots is at which places the roots of what a node has for each ends stand.
type roots map[ends]int

// parting is the nodes of all branches of all parts of a tree. Branches share there what is the same in them, so that a node is joined to its parts in one step however great these are.
type parting struct{ nodes []api.Node }

// branches answers the branches of a plain tree whose anchors are where they may be.
func branches(l []api.Node) []api.Branch {
	var p parting
	parts := make([]roots, 0, len(l))
	for _, n := range l {
		parts = append(parts, p.part(n, parts))
	}
	var all []api.Branch
	for _, e := range inOrder() {
		if at, is := parts[len(parts)-1][e]; is {
			all = append(all, api.Branch{Hat: e.hat, Dollar: e.dollar, Tree: written(p.nodes, at)})
		}
	}
	return all
}

// part answers what n has, where parts tells it of the nodes ahead.
func (p *parting) part(n api.Node, parts []roots) roots {
	switch n.Kind {
	case api.NdHat:
		return roots{{hat: true}: p.put(api.Node{Kind: api.NdEmpty})}
	case api.NdDollar:
		return roots{{dollar: true}: p.put(api.Node{Kind: api.NdEmpty})}
	case api.NdAlt:
		return p.alt(parts[n.A], parts[n.B])
	case api.NdCat:
		return p.cat(parts[n.A], parts[n.B])
	case api.NdRep:
		// No anchor can stand in a repeat.
		n = star(parts[n.A][ends{}])
	}
	return roots{{}: p.put(n)}
}

func (p *parting) alt(a, b roots) roots {
	all := roots{}
	for _, e := range inOrder() {
		atA, inA := a[e]
		atB, inB := b[e]
		switch {
		case inA && inB:
			all[e] = p.put(api.Node{Kind: api.NdAlt, A: atA, B: atB})
		case inA:
			all[e] = atA
		case inB:
			all[e] = atB
		}
	}
	return all
}

// cat needs no others than these pairs: no NdDollar can stand in the first part of a sequence, no NdHat in the second.
func (p *parting) cat(a, b roots) roots {
	all := roots{}
	for _, e := range inOrder() {
		atA, inA := a[ends{hat: e.hat}]
		atB, inB := b[ends{dollar: e.dollar}]
		if inA && inB {
			all[e] = p.put(api.Node{Kind: api.NdCat, A: atA, B: atB})
		}
	}
	return all
}

// put answers the place of a node behind all others.
func (p *parting) put(n api.Node) int {
	p.nodes = append(p.nodes, n)
	return len(p.nodes) - 1
}
