package meaning

import (
	"riddle/api"
	"riddle/class"
	"riddle/tree"
)

// newline is the byte at which a line ends.
const newline = 10

// page is a text at hand, and the places of it, from one to another, between which spans are looked for. What stands around these is there for the anchors.
type page struct {
	text     []byte
	multi    bool
	from, to int
}

// begins answers whether an NdHat holds at a place of the text.
func (p page) begins(at int) bool { return at == 0 || p.multi && p.text[at-1] == newline }

// ends answers whether an NdDollar holds at a place of the text.
func (p page) ends(at int) bool { return at == len(p.text) || p.multi && p.text[at] == newline }

func (p page) places() int { return p.to - p.from + 1 }

// meant answers the table of what t means on a page: of nothing, if t may not be.
func meant(t api.Tree, p page) table {
	if tree.Check(t) != api.OK {
		return make(table, p.places())
	}
	// A node stands just behind its parts, so their tables are the last ones that no node has taken yet.
	var left []table
	for _, n := range t.Nodes {
		left = p.take(n, left)
	}
	return left[0]
}

// take answers the tables that are left when n has put its own in the place of its parts'.
func (p page) take(n api.Node, left []table) []table {
	last := len(left) - 1
	switch n.Kind {
	case api.NdCat:
		return append(left[:last-1], cat(left[last-1], left[last]))
	case api.NdAlt:
		return append(left[:last-1], alt(left[last-1], left[last]))
	case api.NdRep:
		return append(left[:last], repeat(left[last], n.Least, n.Most))
	}
	return append(left, p.leaf(n))
}

func (p page) leaf(n api.Node) table {
	switch n.Kind {
	case api.NdHat:
		return p.where(0, p.begins)
	case api.NdDollar:
		return p.where(0, p.ends)
	case api.NdClass:
		return p.where(1, func(at int) bool { return at < p.to && class.Has(n.Class, p.text[at]) })
	}
	return stay(p.places())
}

// where answers the table of spans of one width, from each place of the text at which holds says so.
func (p page) where(width int, holds func(at int) bool) table {
	// All rows may be the same memory, since no row of a table is written to.
	one := row{1 << width}
	return rowByRow(p.places(), func(_ table, at int) row {
		if holds(p.from + at) {
			return one
		}
		return nil
	})
}
