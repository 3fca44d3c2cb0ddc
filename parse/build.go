package parse

import "riddle/api"

// level is how far a group, or the whole, has come: the places of the nodes of all sequences ahead, of all items ahead in the last sequence, and of its last item, which a repeat may still follow.
type level struct{ bars, row, item int }

// builder puts nodes behind each other as tokens come; of the groups that are open the last level is the inmost one.
type builder struct {
	flags  api.Flags
	nodes  []api.Node
	many   int
	levels []level
}

// build answers the tree of tokens that are one, and whether it has no more nodes than it may.
func build(f api.Flags, l []api.Token) (api.Tree, bool) {
	b := builder{flags: f}
	b.open()
	for _, t := range l {
		b.take(t)
	}
	b.endSequence()
	return api.Tree{Nodes: b.nodes}, b.many <= api.MaxNodes
}

func (b *builder) take(t api.Token) {
	switch t.Kind {
	case api.TkOpen:
		b.endItem()
		b.open()
	case api.TkBar:
		b.endSequence()
	case api.TkClose:
		b.endSequence()
		whole := b.top().bars
		b.levels = b.levels[:len(b.levels)-1]
		b.top().item = whole
	case api.TkRepeat:
		here := b.top()
		here.item = b.put(api.Node{Kind: api.NdRep, A: here.item, Least: t.Least, Most: t.Most, Lazy: t.Lazy})
	default:
		b.endItem()
		n, _ := Leaf(t, b.flags)
		b.top().item = b.put(n)
	}
}

func (b *builder) open() { b.levels = append(b.levels, level{none, none, none}) }

func (b *builder) top() *level { return &b.levels[len(b.levels)-1] }

// put answers the place of a node behind all others. Those above the limit are counted alone: there may be ever so many.
func (b *builder) put(n api.Node) int {
	if b.many < api.MaxNodes {
		b.nodes = append(b.nodes, n)
	}
	b.many++
	return b.many - 1
}

// endItem joins the last item, which no repeat follows any more, to those ahead of it. Where there is none, nothing stands ahead, either, and nothing is joined.
func (b *builder) endItem() {
	here := b.top()
	here.row = b.join(api.NdCat, here.row, here.item)
	here.item = none
}

// endSequence joins the last sequence to those ahead of it.
func (b *builder) endSequence() {
	b.endItem()
	here := b.top()
	if here.row == none {
		here.row = b.put(api.Node{Kind: api.NdEmpty})
	}
	here.bars = b.join(api.NdAlt, here.bars, here.row)
	here.row = none
}

// join answers the place of what joins all ahead and the last one: of that one, if there is nothing ahead.
func (b *builder) join(kind, ahead, last int) int {
	if ahead == none {
		return last
	}
	return b.put(api.Node{Kind: kind, A: ahead, B: last})
}
